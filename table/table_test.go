package table_test

import (
	"cmp"
	"math"
	"slices"
	"testing"

	"spoor/table"
)

func TestExampleRun(t *testing.T) {
	x := table.New[string, int]()
	if !x.Set("b", 1) || !x.Set("a", 2) || x.Set("b", 3) || !slices.Equal(x.Keys(), []string{"a", "b"}) {
		t.Error(x.Keys())
	}
	if v, ok := x.Get("b"); v != 3 || !ok {
		t.Error(v, ok)
	}
	if k, v, ok := x.At(0); k != "a" || v != 2 || !ok {
		t.Error(k, v, ok)
	}
	if k, v, ok := x.At(2); k != "" || v != 0 || ok {
		t.Error(k, v, ok)
	}
	if x.Least("b") != 1 || x.Least("z") != 2 || x.Least("a") != 0 || x.Least("") != 0 || x.Least("aa") != 1 {
		t.Error("Least")
	}
	if x.Del("q") || !x.Del("a") || x.Del("a") || x.Len() != 1 {
		t.Error("Del")
	}
	if v, ok := x.Get("a"); v != 0 || ok {
		t.Error(v, ok)
	}
}

func TestEmpty(t *testing.T) {
	x := table.New[int, string]()
	if x.Len() != 0 || len(x.Keys()) != 0 || x.Least(0) != 0 || x.Least(math.MaxInt) != 0 || x.Del(0) {
		t.Error("an empty table has keys")
	}
	if v, ok := x.Get(0); v != "" || ok {
		t.Error(v, ok)
	}
	for _, i := range []int{math.MinInt, -1, 0, 1, math.MaxInt} {
		if k, v, ok := x.At(i); k != 0 || v != "" || ok {
			t.Error(i, k, v, ok)
		}
	}
}

func TestAtOutOfRange(t *testing.T) {
	x := table.New[int, string]()
	x.Set(5, "five")
	for _, i := range []int{math.MinInt, -1, 1, math.MaxInt} {
		if k, v, ok := x.At(i); k != 0 || v != "" || ok {
			t.Error(i, k, v, ok)
		}
	}
}

func TestZeroKeysAndValues(t *testing.T) {
	x := table.New[string, int]()
	if !x.Set("", 0) || x.Set("", 0) || x.Len() != 1 {
		t.Error("Set of the empty key")
	}
	if v, ok := x.Get(""); v != 0 || !ok {
		t.Error(v, ok)
	}
	if !x.Del("") || x.Len() != 0 {
		t.Error("Del of the empty key")
	}
}

func TestCopy(t *testing.T) {
	x := table.New[int, int]()
	for i := range 5 {
		x.Set(i*10, i)
	}
	y := x.Copy()
	if !slices.Equal(y.Keys(), []int{0, 10, 20, 30, 40}) {
		t.Fatal(y.Keys())
	}
	x.Set(10, 99)
	x.Set(5, 5)
	x.Del(40)
	if v, _ := y.Get(10); v != 1 || y.Len() != 5 || !slices.Equal(y.Keys(), []int{0, 10, 20, 30, 40}) {
		t.Error(v, y.Keys())
	}
	y.Set(20, 77)
	y.Set(41, 0)
	y.Set(1, 1)
	y.Del(0)
	if v, _ := x.Get(20); v != 2 || !slices.Equal(x.Keys(), []int{0, 5, 10, 20, 30}) {
		t.Error(v, x.Keys())
	}
	if v, _ := y.Get(41); v != 0 || !slices.Equal(y.Keys(), []int{1, 10, 20, 30, 40, 41}) {
		t.Error(v, y.Keys())
	}
	for i, want := range []int{1, 1, 77, 3, 4, 0} {
		if _, v, _ := y.At(i); v != want {
			t.Error(i, v)
		}
	}
}

func TestCopySharesWhatValuesReferTo(t *testing.T) {
	x := table.New[int, []int]()
	x.Set(1, []int{7})
	y := x.Copy()
	v, _ := x.Get(1)
	v[0] = 8
	if w, _ := y.Get(1); w[0] != 8 {
		t.Error("the value was copied")
	}
}

func TestKeysAreNewMemory(t *testing.T) {
	x := table.New[int, int]()
	for i := range 3 {
		x.Set(i, i)
	}
	l := x.Keys()
	for i := range l[:cap(l)] {
		l[:cap(l)][i] = 100
	}
	x.Set(3, 3)
	if !slices.Equal(x.Keys(), []int{0, 1, 2, 3}) {
		t.Error(x.Keys())
	}
	if v, ok := x.Get(1); v != 1 || !ok {
		t.Error(v, ok)
	}
}

type name string

// TestLikeAMap holds tables with keys of several types against plain maps.
func TestLikeAMap(t *testing.T) {
	run(t, func(n uint32) int { return int(n%60) - 30 })
	run(t, func(n uint32) int8 { return int8(n) })
	run(t, func(n uint32) uint8 { return uint8(n % 50) })
	run(t, func(n uint32) uint64 { return math.MaxUint64 - uint64(n%50) })
	run(t, func(n uint32) int64 { return math.MinInt64 + int64(n%50) })
	run(t, func(n uint32) rune { return rune(n % 50) })
	run(t, func(n uint32) string { return string([]byte{byte(n % 3), byte(n >> 8 % 200)})[:n%3] })
	run(t, func(n uint32) name { return name(rune('a' + n%26)) })
}

func run[K cmp.Ordered](t *testing.T, key func(n uint32) K) {
	t.Helper()
	x := table.New[K, int]()
	m := map[K]int{}
	seed := uint32(1)
	for i := range 2000 {
		seed = seed*1664525 + 1013904223
		k := key(seed >> 8)
		v, there := m[k]
		if got, ok := x.Get(k); got != v || ok != there {
			t.Fatal("Get", k, got, ok)
		}
		if seed>>24 < 140 {
			if x.Set(k, i) == there {
				t.Fatal("Set", k)
			}
			m[k] = i
		} else {
			if x.Del(k) != there {
				t.Fatal("Del", k)
			}
			delete(m, k)
		}
		if i%20 == 0 {
			compare(t, x, m, key(seed>>4))
		}
	}
}

func compare[K cmp.Ordered](t *testing.T, x *table.Table[K, int], m map[K]int, probe K) {
	t.Helper()
	var keys []K
	less := 0
	for k := range m {
		keys = append(keys, k)
		if k < probe {
			less++
		}
	}
	slices.Sort(keys)
	if x.Len() != len(m) || !slices.Equal(x.Keys(), keys) || x.Least(probe) != less {
		t.Fatal(x.Keys(), keys, probe, x.Least(probe))
	}
	for i, k := range keys {
		if got, v, ok := x.At(i); got != k || v != m[k] || !ok {
			t.Fatal("At", i, got, v, ok)
		}
		if x.Least(k) != i {
			t.Fatal("Least", k, x.Least(k))
		}
	}
}
