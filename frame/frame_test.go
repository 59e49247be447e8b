package frame_test

import (
	"bytes"
	"math"
	"testing"

	"spoor/api"
	"spoor/frame"
	"spoor/sum"
)

func noise(n int, seed uint32) []byte {
	b := make([]byte, n)
	for i := range b {
		seed = seed*1664525 + 1013904223
		b[i] = byte(seed >> 24)
	}
	return b
}

func TestPut(t *testing.T) {
	head := []byte{0, 0, 0, 2}
	c := sum.Of(head, []byte("ab"))
	want := append(append(head, byte(c>>24), byte(c>>16), byte(c>>8), byte(c)), "ab"...)
	if got := frame.Put(nil, []byte("ab")); !bytes.Equal(got, want) || len(got) != 10 {
		t.Errorf("%x, not %x", got, want)
	}
	if got := frame.Put([]byte("q"), []byte("ab")); !bytes.Equal(got, append([]byte("q"), want...)) {
		t.Errorf("%x", got)
	}
	big := noise(api.MaxRecord, 1)
	got := frame.Put(nil, big)
	if len(got) != api.MaxRecord+8 || !bytes.Equal(got[:4], []byte{0, 4, 0, 0}) {
		t.Errorf("%x", got[:8])
	}
	if p, at, e := frame.Next(got, 0); !bytes.Equal(p, big) || at != len(got) || e != api.OK {
		t.Error(at, e)
	}
	got = frame.Put(nil, noise(0x1234, 1))
	if !bytes.Equal(got[:4], []byte{0, 0, 0x12, 0x34}) {
		t.Errorf("%x", got[:8])
	}
	for _, payload := range [][]byte{nil, {}, make([]byte, api.MaxRecord+1)} {
		if got := frame.Put([]byte("q"), payload); string(got) != "q" {
			t.Errorf("%d bytes: %d", len(payload), len(got))
		}
		if got := frame.Put(nil, payload); len(got) != 0 {
			t.Errorf("%d bytes: %d", len(payload), len(got))
		}
	}
}

func TestNext(t *testing.T) {
	ab := frame.Put(nil, []byte("ab"))
	two := frame.Put(frame.Put([]byte("qq"), []byte("first")), []byte("2"))
	wrong := append([]byte(nil), ab...)
	wrong[9]++
	wrongSum := append([]byte(nil), ab...)
	wrongSum[7]++
	// The sum is of the length, too: this is the frame of ab with another byte counted in.
	longer := append([]byte{0, 0, 0, 3}, append(ab[4:len(ab):len(ab)], 'c')...)
	for i, c := range []struct {
		b    []byte
		at   int
		p    string
		next int
		e    api.Errno
	}{
		{ab, 0, "ab", 10, api.OK}, {two, 2, "first", 15, api.OK}, {two, 15, "2", 24, api.OK},
		{ab, -1, "", 0, api.ErrArg}, {ab, 11, "", 0, api.ErrArg}, {ab, math.MinInt, "", 0, api.ErrArg}, {ab, math.MaxInt, "", 0, api.ErrArg}, {nil, 1, "", 0, api.ErrArg},
		{nil, 0, "", 0, api.ErrShort}, {ab, 10, "", 0, api.ErrShort}, {ab, 3, "", 0, api.ErrShort}, {ab[:7], 0, "", 0, api.ErrShort}, {make([]byte, 7), 0, "", 0, api.ErrShort}, {bytes.Repeat([]byte{0xFF}, 7), 0, "", 0, api.ErrShort},
		{make([]byte, 8), 0, "", 0, api.ErrForm}, {bytes.Repeat([]byte{0xFF}, 8), 0, "", 0, api.ErrForm}, {[]byte{0, 4, 0, 1, 0, 0, 0, 0}, 0, "", 0, api.ErrForm}, {[]byte{0x80, 0, 0, 1, 0, 0, 0, 0, 0}, 0, "", 0, api.ErrForm}, {make([]byte, 100), 5, "", 0, api.ErrForm},
		{ab[:9], 0, "", 0, api.ErrShort}, {ab[:8], 0, "", 0, api.ErrShort}, {[]byte{0, 4, 0, 0, 0, 0, 0, 0}, 0, "", 0, api.ErrShort}, {append([]byte{0, 0, 0, 9}, ab[4:]...), 0, "", 0, api.ErrShort},
		{wrong, 0, "", 0, api.ErrSum}, {wrongSum, 0, "", 0, api.ErrSum}, {longer, 0, "", 0, api.ErrSum}, {append([]byte{0, 0, 0, 1}, ab[4:]...), 0, "", 0, api.ErrSum},
	} {
		p, next, e := frame.Next(c.b, c.at)
		if string(p) != c.p || next != c.next || e != c.e || e != api.OK && len(p) != 0 {
			t.Errorf("case %d: %q, %d, %d", i, p, next, e)
		}
	}
}

func TestScan(t *testing.T) {
	ab := frame.Put(nil, []byte("ab"))
	if l, at := frame.Scan(append(append(append([]byte(nil), ab...), ab...), 0)); len(l) != 2 || string(l[0]) != "ab" || string(l[1]) != "ab" || at != 20 {
		t.Error(l, at)
	}
	if l, at := frame.Scan(nil); len(l) != 0 || at != 0 {
		t.Error(l, at)
	}
	if l, at := frame.Scan(append([]byte{7}, ab...)); len(l) != 0 || at != 0 {
		t.Error(l, at)
	}
	// What follows a wrong frame is not found.
	bad := append(append([]byte(nil), ab...), ab...)
	bad[9]++
	if l, at := frame.Scan(bad); len(l) != 0 || at != 0 {
		t.Error(l, at)
	}
}

func TestScanOfBeginnings(t *testing.T) {
	var b []byte
	var ends []int
	for n := 1; n < 60; n += 7 {
		b = frame.Put(b, noise(n, uint32(n)))
		ends = append(ends, len(b))
	}
	for k := range len(b) + 1 {
		l, at := frame.Scan(b[:k])
		want := 0
		for _, end := range ends {
			if end <= k {
				want++
			}
		}
		if len(l) != want || want > 0 && at != ends[want-1] || want == 0 && at != 0 {
			t.Fatalf("%d bytes: %d payloads up to %d", k, len(l), at)
		}
		for i, p := range l {
			if !bytes.Equal(p, noise(1+7*i, uint32(1+7*i))) {
				t.Fatalf("%d bytes: payload %d", k, i)
			}
		}
	}
}

func TestBurstsAreNoticed(t *testing.T) {
	b := frame.Put(nil, noise(40, 3))
	for at := 64; at < 8*len(b); at++ {
		for _, burst := range []uint32{1, 3, 0x80000001, 0xFFFFFFFF, 0x82F63B78, 0x05EC76F1} {
			p := append([]byte(nil), b...)
			turned := false
			for k := range 32 {
				if burst>>k&1 == 1 && at+k < 8*len(p) {
					p[(at+k)/8] ^= 1 << ((at + k) % 8)
					turned = true
				}
			}
			if _, _, e := frame.Next(p, 0); turned && e != api.ErrSum {
				t.Fatalf("burst %x at %d: %d", burst, at, e)
			}
		}
	}
}

func TestMemory(t *testing.T) {
	b := append(make([]byte, 0, 60), 'q')
	payload := append(make([]byte, 0, 60), "ab"...)
	results := [][]byte{frame.Put(b, payload), frame.Put(b, nil)}
	two := frame.Put(frame.Put(nil, payload), payload)
	l, _ := frame.Scan(two)
	p, _, _ := frame.Next(two, 0)
	for i, r := range append(append(results, l...), p) {
		for j := range r[:cap(r)] {
			r[:cap(r)][j] = byte(i)
		}
	}
	for i, r := range l {
		if !bytes.Equal(r, []byte{byte(i + 2), byte(i + 2)}) {
			t.Error("payloads share memory", l)
		}
	}
	if !bytes.Equal(b[:60], append([]byte("q"), make([]byte, 59)...)) || !bytes.Equal(payload[:60], append([]byte("ab"), make([]byte, 58)...)) {
		t.Error("the arguments were changed")
	}
	if again, _ := frame.Scan(two); len(again) != 2 || string(again[0]) != "ab" || string(again[1]) != "ab" {
		t.Error("memory is shared")
	}
}
