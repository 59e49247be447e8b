package sparse_test

import (
	"math"
	"testing"

	"spoor/api"
	"spoor/sparse"
)

func made[T any](t *testing.T, size int) *sparse.Set[T] {
	t.Helper()
	s, e := sparse.New[T](size)
	if e != api.OK || s == nil {
		t.Fatalf("New(%d): %d", size, e)
	}
	return s
}

func TestNew(t *testing.T) {
	for _, size := range []int{math.MinInt, -1, api.MaxRoom + 1, math.MaxInt} {
		if s, e := sparse.New[int](size); s != nil || e != api.ErrArg {
			t.Errorf("New(%d): %d", size, e)
		}
	}
	for _, size := range []int{0, 1, 5, api.MaxRoom} {
		s := made[int](t, size)
		if s.Size() != size || s.Len() != 0 {
			t.Errorf("New(%d): size %d, %d members", size, s.Size(), s.Len())
		}
		for i := range size {
			if s.Has(i) {
				t.Fatalf("size %d: %d is a member", size, i)
			}
		}
		if s.Add(size, 1) || s.Add(-1, 1) || s.Len() != 0 {
			t.Errorf("size %d: a member that cannot be", size)
		}
		for i := range size {
			if !s.Add(i, i) {
				t.Fatalf("size %d: no room for %d", size, i)
			}
		}
		if s.Len() != size || s.Size() != size {
			t.Errorf("size %d: %d members", size, s.Len())
		}
	}
}

func TestExampleRun(t *testing.T) {
	s := made[string](t, 3)
	if !s.Add(2, "a") || !s.Add(0, "b") || s.Add(2, "c") || s.Add(3, "d") {
		t.Error("Add")
	}
	if i, x, ok := s.At(0); i != 2 || x != "a" || !ok {
		t.Error(i, x, ok)
	}
	if i, x, ok := s.At(1); i != 0 || x != "b" || !ok {
		t.Error(i, x, ok)
	}
	if x, ok := s.Get(2); x != "a" || !ok {
		t.Error(x, ok)
	}
	s.Clear()
	if s.Has(2) || s.Len() != 0 || s.Size() != 3 || !s.Add(2, "e") {
		t.Error("after Clear")
	}
	if x, ok := s.Get(2); x != "e" || !ok {
		t.Error(x, ok)
	}
}

func TestOutOfRange(t *testing.T) {
	s := made[string](t, 3)
	s.Add(0, "a")
	s.Add(2, "b")
	for _, i := range []int{math.MinInt, -1, 1, 3, 4, math.MaxInt} {
		if x, ok := s.Get(i); s.Has(i) || x != "" || ok {
			t.Error(i, x, ok)
		}
	}
	for _, k := range []int{math.MinInt, -1, 2, 3, math.MaxInt} {
		if i, x, ok := s.At(k); i != 0 || x != "" || ok {
			t.Error(k, i, x, ok)
		}
	}
	for _, i := range []int{math.MinInt, -1, 3, 4, math.MaxInt, 0, 2} {
		if s.Add(i, "c") || s.Len() != 2 {
			t.Error("Add", i)
		}
	}
	if x, _ := s.Get(0); x != "a" {
		t.Error("a refused Add changes the value")
	}
}

func TestClearForgetsAll(t *testing.T) {
	s := made[*int](t, 4)
	n := 5
	for _, i := range []int{3, 1, 0, 2} {
		s.Add(i, &n)
	}
	s.Clear()
	s.Clear()
	for i := range 4 {
		if x, ok := s.Get(i); s.Has(i) || x != nil || ok {
			t.Error("a member is left", i)
		}
		if k, x, ok := s.At(i); k != 0 || x != nil || ok {
			t.Error("a member is left at", i)
		}
	}
	// One new member stands where an earlier one stood: that one must not seem to be there again.
	s.Add(1, nil)
	if s.Has(3) || s.Has(0) || s.Has(2) || !s.Has(1) || s.Len() != 1 {
		t.Error("an earlier member came back")
	}
	s.Add(2, &n)
	if i, x, ok := s.At(1); i != 2 || x != &n || !ok || s.Has(0) || s.Has(3) {
		t.Error(i, x, ok)
	}
}

// TestLikeAList holds a set against a plain list, through many calls.
func TestLikeAList(t *testing.T) {
	for _, size := range []int{1, 2, 10, 100} {
		s := made[int](t, size)
		var keys, vals []int
		seed := uint32(size)
		for n := range 3000 {
			seed = seed*1664525 + 1013904223
			i := int(seed>>8)%(size+4) - 2
			at := index(keys, i)
			if seed>>24 < 8 {
				s.Clear()
				keys, vals = nil, nil
			} else if can := i >= 0 && i < size && at < 0; s.Add(i, n) != can {
				t.Fatal("Add", i)
			} else if can {
				keys, vals = append(keys, i), append(vals, n)
			}
			compare(t, s, keys, vals)
		}
	}
}

func index(l []int, x int) int {
	for i, y := range l {
		if x == y {
			return i
		}
	}
	return -1
}

func compare(t *testing.T, s *sparse.Set[int], keys, vals []int) {
	t.Helper()
	if s.Len() != len(keys) {
		t.Fatal(s.Len(), len(keys))
	}
	for k, i := range keys {
		if j, x, ok := s.At(k); j != i || x != vals[k] || !ok {
			t.Fatal("At", k, j, x, ok)
		}
	}
	for i := -2; i < s.Size()+2; i++ {
		at := index(keys, i)
		x, ok := s.Get(i)
		if s.Has(i) != (at >= 0) || ok != (at >= 0) || ok && x != vals[at] || !ok && x != 0 {
			t.Fatal("Get", i, x, ok)
		}
	}
}
