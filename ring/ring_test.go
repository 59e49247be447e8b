package ring_test

import (
	"math"
	"slices"
	"testing"

	"spoor/api"
	"spoor/ring"
)

func made[T any](t *testing.T, room int) *ring.Ring[T] {
	t.Helper()
	r, e := ring.New[T](room)
	if e != api.OK || r == nil {
		t.Fatalf("New(%d): %d", room, e)
	}
	return r
}

func TestNew(t *testing.T) {
	for _, room := range []int{math.MinInt, -1, 0, api.MaxRoom + 1, math.MaxInt} {
		if r, e := ring.New[int](room); r != nil || e != api.ErrArg {
			t.Errorf("New(%d): %d", room, e)
		}
	}
	for _, room := range []int{1, 2, api.MaxRoom} {
		r := made[int](t, room)
		if r.Room() != room || r.Len() != 0 || len(r.List()) != 0 {
			t.Errorf("New(%d): room %d, %d elements", room, r.Room(), r.Len())
		}
		for i := range room {
			if !r.Put(i) {
				t.Fatalf("room %d: no room for %d", room, i)
			}
		}
		if r.Put(room) || r.Len() != room {
			t.Errorf("room %d: one more", room)
		}
	}
}

func TestExampleRun(t *testing.T) {
	r := made[int](t, 2)
	if !r.Put(5) || !r.Put(6) || r.Put(7) {
		t.Error("Put")
	}
	if x, ok := r.Take(); x != 5 || !ok {
		t.Error(x, ok)
	}
	if !r.Put(8) || !slices.Equal(r.List(), []int{6, 8}) {
		t.Error(r.List())
	}
}

func TestTakeOfNothing(t *testing.T) {
	r := made[string](t, 3)
	if x, ok := r.Take(); x != "" || ok {
		t.Error(x, ok)
	}
	r.Put("a")
	r.Take()
	if x, ok := r.Take(); x != "" || ok || r.Len() != 0 {
		t.Error(x, ok)
	}
	if x, ok := r.At(0); x != "" || ok {
		t.Error(x, ok)
	}
}

func TestAt(t *testing.T) {
	r := made[int](t, 3)
	r.Put(1)
	r.Take()
	r.Put(7)
	r.Put(8)
	for i, want := range []int{7, 8} {
		if x, ok := r.At(i); x != want || !ok {
			t.Error(i, x, ok)
		}
	}
	for _, i := range []int{2, 3, -1, math.MinInt, math.MaxInt} {
		if x, ok := r.At(i); x != 0 || ok {
			t.Error(i, x, ok)
		}
	}
	if r.Len() != 2 {
		t.Error("At removes")
	}
}

func TestDrop(t *testing.T) {
	for _, c := range []struct{ n, dropped int }{
		{math.MinInt, 0}, {-1, 0}, {0, 0}, {1, 1}, {2, 2}, {3, 3}, {4, 3}, {9, 3}, {math.MaxInt, 3},
	} {
		r := made[int](t, 3)
		r.Put(0)
		r.Take()
		for i := range 3 {
			r.Put(i + 1)
		}
		if n := r.Drop(c.n); n != c.dropped || r.Len() != 3-n || !slices.Equal(r.List(), []int{1, 2, 3}[n:]) {
			t.Errorf("Drop(%d): %d, then %v", c.n, n, r.List())
		}
		if !r.Put(4) && c.dropped > 0 {
			t.Errorf("Drop(%d): no room", c.n)
		}
	}
	if n := made[int](t, 2).Drop(9); n != 0 {
		t.Error(n)
	}
}

func TestListIsNewMemory(t *testing.T) {
	r := made[int](t, 4)
	r.Put(1)
	r.Put(2)
	l := r.List()
	l[0] = 9
	for i := range l[:cap(l)] {
		l[:cap(l)][i] = 9
	}
	if !slices.Equal(r.List(), []int{1, 2}) {
		t.Error(r.List())
	}
	r.Put(3)
	if !slices.Equal(r.List(), []int{1, 2, 3}) {
		t.Error(r.List())
	}
}

func TestElementsStayAsTheyAre(t *testing.T) {
	r := made[*int](t, 1)
	n := 5
	r.Put(&n)
	if p, ok := r.Take(); p != &n || !ok {
		t.Error("another pointer")
	}
	s := made[[]byte](t, 1)
	b := []byte("ab")
	s.Put(b)
	b[0] = 'z'
	if got, _ := s.At(0); string(got) != "zb" {
		t.Errorf("%q", got)
	}
}

// TestLikeAList holds a ring of any type against a plain list, through many calls.
func TestLikeAList(t *testing.T) {
	for _, room := range []int{1, 2, 3, 7, 64} {
		run(t, room, func(i int) int { return i })
		run(t, room, func(i int) string { return string(rune('a' + i%26)) })
		run(t, room, func(i int) [2]int { return [2]int{i, -i} })
	}
}

func run[T comparable](t *testing.T, room int, elem func(i int) T) {
	t.Helper()
	r := made[T](t, room)
	var l []T
	seed := uint32(room)
	for i := range 3000 {
		seed = seed*1664525 + 1013904223
		switch k := seed >> 24; {
		case k < 130:
			if r.Put(elem(i)) != (len(l) < room) {
				t.Fatal("Put")
			}
			if len(l) < room {
				l = append(l, elem(i))
			}
		case k < 230:
			x, ok := r.Take()
			var want T
			if len(l) > 0 {
				want = l[0]
			}
			if ok != (len(l) > 0) || x != want {
				t.Fatal("Take", x, ok)
			}
			l = l[min(1, len(l)):]
		default:
			n := int(seed>>16&7) - 2
			want := max(0, min(n, len(l)))
			if r.Drop(n) != want {
				t.Fatal("Drop")
			}
			l = l[want:]
		}
		if r.Len() != len(l) || r.Room() != room || !slices.Equal(r.List(), l) {
			t.Fatal(r.List(), l)
		}
		for i, want := range l {
			if x, ok := r.At(i); x != want || !ok {
				t.Fatal("At", i, x, ok)
			}
		}
	}
}
