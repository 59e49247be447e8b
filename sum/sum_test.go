package sum_test

import (
	"testing"

	"spoor/sum"
)

// byBits follows P1.1 step by step.
func byBits(c uint32, p []byte) uint32 {
	s := ^c
	for _, x := range p {
		s ^= uint32(x)
		for range 8 {
			out := s & 1
			s >>= 1
			if out == 1 {
				s ^= 0x82F63B78
			}
		}
	}
	return ^s
}

// noise makes n bytes that look like any.
func noise(n int, seed uint32) []byte {
	b := make([]byte, n)
	for i := range b {
		seed = seed*1664525 + 1013904223
		b[i] = byte(seed >> 24)
	}
	return b
}

func TestOnFollowsTheSteps(t *testing.T) {
	for x := range 256 {
		p := []byte{byte(x)}
		for _, c := range []uint32{0, 1, 0x80000000, 0xFFFFFFFF, 0x12345678} {
			if got, want := sum.On(c, p), byBits(c, p); got != want {
				t.Errorf("On(%x, %x) = %x, not %x", c, p, got, want)
			}
		}
	}
	for n := range 70 {
		p := noise(n, uint32(n))
		if got, want := sum.On(uint32(n)*0x01010101, p), byBits(uint32(n)*0x01010101, p); got != want {
			t.Errorf("%d bytes: %x, not %x", n, got, want)
		}
	}
}

func TestOnOfNothing(t *testing.T) {
	for _, c := range []uint32{0, 1, 77, 0xFFFFFFFF} {
		if sum.On(c, nil) != c || sum.On(c, []byte{}) != c {
			t.Errorf("On(%x, nothing) changes it", c)
		}
	}
}

func TestOfExamples(t *testing.T) {
	if c := sum.Of([]byte("123456789")); c != 0xE3069283 {
		t.Errorf("%x", c)
	}
	if c := sum.Of([]byte("1234"), []byte("56789")); c != 0xE3069283 {
		t.Errorf("%x", c)
	}
	if c := sum.Of([]byte("1234"), nil, []byte{}, []byte("56789")); c != 0xE3069283 {
		t.Errorf("%x", c)
	}
	if sum.Of() != 0 || sum.Of(nil) != 0 || sum.Of(nil, []byte{}) != 0 {
		t.Error("nothing has the sum 0")
	}
	// From RFC 3720: 32 bytes of zeros, of ones, and counted up.
	zeros, ones, up := make([]byte, 32), make([]byte, 32), make([]byte, 32)
	for i := range 32 {
		ones[i], up[i] = 0xFF, byte(i)
	}
	if sum.Of(zeros) != 0x8A9136AA || sum.Of(ones) != 0x62A8AB43 || sum.Of(up) != 0x46DD794E {
		t.Errorf("%x %x %x", sum.Of(zeros), sum.Of(ones), sum.Of(up))
	}
}

func TestOfParts(t *testing.T) {
	b := noise(200, 3)
	want := sum.Of(b)
	for i := range len(b) + 1 {
		for j := i; j <= len(b); j += 7 {
			if got := sum.Of(b[:i], b[i:j], b[j:]); got != want {
				t.Fatalf("cut at %d and %d: %x, not %x", i, j, got, want)
			}
		}
	}
}

func TestSum(t *testing.T) {
	var s sum.Sum
	if s.Value() != 0 {
		t.Error("a declared Sum represents no bytes")
	}
	b := noise(50, 9)
	for i, x := range b {
		s.Add([]byte{x})
		s.Add(nil)
		if s.Value() != sum.Of(b[:i+1]) || s.Value() != sum.Of(b[:i+1]) {
			t.Fatalf("after %d bytes: %x", i+1, s.Value())
		}
	}
	var e sum.Sum
	e.Add([]byte("12345"))
	e.Add([]byte("6789"))
	if e.Value() != 0xE3069283 {
		t.Errorf("%x", e.Value())
	}
}

func TestNilSum(t *testing.T) {
	var none *sum.Sum
	none.Add([]byte("a"))
	none.Add(nil)
	if none.Value() != 0 {
		t.Error("a nil Sum has the value 0")
	}
}

func TestArgumentsStay(t *testing.T) {
	b := append(make([]byte, 0, 8), "abc"...)
	parts := [][]byte{b, b}
	var s sum.Sum
	sum.Of(parts...)
	sum.On(5, b)
	s.Add(b)
	if string(b[:8]) != "abc\x00\x00\x00\x00\x00" {
		t.Errorf("%q", b[:8])
	}
	before := s.Value()
	b[0] = 'z'
	if s.Value() != before {
		t.Error("the Sum keeps its argument")
	}
}

func TestBurstsChangeTheSum(t *testing.T) {
	b := noise(40, 5)
	want := sum.Of(b)
	for at := range 8 * len(b) {
		for _, burst := range []uint32{1, 3, 0x5, 0x80000001, 0xFFFFFFFF, 0x82F63B78, 0x05EC76F1} {
			p := append([]byte(nil), b...)
			turned := false
			for k := range 32 {
				if burst>>k&1 == 1 && at+k < 8*len(p) {
					p[(at+k)/8] ^= 1 << ((at + k) % 8)
					turned = true
				}
			}
			if (sum.Of(p) != want) != turned {
				t.Fatalf("burst %x at %d", burst, at)
			}
		}
	}
}
