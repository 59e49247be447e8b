package ident_test

import (
	"math"
	"testing"

	"spoor/api"
	"spoor/ident"
	"spoor/sum"
)

const text = "a file that begins with more bytes than a fingerprint has"

func TestHead(t *testing.T) {
	for n := range len(text) {
		want := api.Head{Len: min(n, 16), Sum: sum.Of([]byte(text[:min(n, 16)]))}
		if h := ident.Head([]byte(text[:n])); h != want {
			t.Errorf("%d bytes: %v", n, h)
		}
	}
	if h := ident.Head(nil); h != (api.Head{}) {
		t.Error(h)
	}
	if h := ident.Head(make([]byte, 20)); h.Len != 16 {
		t.Error(h)
	}
}

func TestSame(t *testing.T) {
	head := func(s string) api.Head { return ident.Head([]byte(s)) }
	with := func(s string, n int) api.Head { return api.Head{Len: n, Sum: head(s).Sum} }
	full := text[:16]
	for i, c := range []struct {
		h        api.Head
		at, size int
		b        string
		want     bool
	}{
		{head("ab"), 2, 3, "abc", true}, {head("ab"), 2, 1, "a", false}, {head("ab"), 1, 2, "ax", false}, {head(""), 0, 0, "", true},
		{head(""), 0, 5, "later", true}, {head(""), 1, 0, "", false}, {head("ab"), 2, 2, "ab", true}, {head("ab"), 0, 2, "ab", true}, {head("ab"), 3, 2, "ab", false}, {head("ab"), 2, 3, "xbc", false},
		{head("ab"), 2, 9, "a", false}, {head("ab"), 2, 9, "", false}, {head(text), 50, 60, full, true}, {head(text), 50, 60, text, true}, {head(text), 50, 49, full, false}, {head(text), 50, 60, full[:15], false}, {head(text), 50, 60, full[:15] + "?", false},
		{with("", -1), 0, 5, "ab", false}, {with("", math.MinInt), 0, 5, "ab", false}, {with(text, 17), 0, 50, text, false}, {api.Head{Len: 17, Sum: sum.Of([]byte(text[:17]))}, 17, 50, text, false}, {with("", math.MaxInt), 0, 5, "ab", false},
		{with("abc", 2), 2, 5, "abc", false}, {head("ab"), math.MinInt, math.MaxInt, "ab", true}, {head("ab"), math.MaxInt, math.MinInt, "ab", false}, {head("ab"), -1, -1, "ab", true},
	} {
		if got := ident.Same(c.h, c.at, c.size, []byte(c.b)); got != c.want {
			t.Errorf("case %d: %v", i, got)
		}
	}
}

// TestGrowingFiles: whatever was seen of a file that only grows, it stays the same; one that was shortened or changed does not.
func TestGrowingFiles(t *testing.T) {
	for n := range len(text) + 1 {
		h := ident.Head([]byte(text[:n]))
		for at := range n + 1 {
			for size := n; size <= len(text); size++ {
				if !ident.Same(h, at, size, []byte(text[:min(size, api.HeadLen)])) {
					t.Fatalf("%d bytes seen, %d read, now %d", n, at, size)
				}
			}
			for size := range at {
				if ident.Same(h, at, size, []byte(text[:min(size, api.HeadLen)])) {
					t.Fatalf("%d bytes seen, %d read, now %d", n, at, size)
				}
			}
		}
		for bit := range 8 * h.Len {
			for _, burst := range []uint32{1, 0x80000001, 0xFFFFFFFF, 0x82F63B78} {
				b := []byte(text)
				turned := false
				for k := range 32 {
					if burst>>k&1 == 1 && bit+k < 8*h.Len {
						b[(bit+k)/8] ^= 1 << ((bit + k) % 8)
						turned = true
					}
				}
				if ident.Same(h, n, len(text), b[:16]) == turned {
					t.Fatalf("%d bytes seen, burst %x at %d", n, burst, bit)
				}
			}
		}
	}
}
