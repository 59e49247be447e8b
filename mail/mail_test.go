package mail_test

import (
	"math"
	"testing"

	"spoor/api"
	"spoor/mail"
)

func made[T any](t *testing.T, room int, l ...T) *mail.Box[T] {
	t.Helper()
	b, e := mail.New[T](room)
	if e != api.OK || b == nil {
		t.Fatalf("New(%d): %d", room, e)
	}
	for _, x := range l {
		if !b.Send(x) {
			t.Fatal("no room")
		}
	}
	return b
}

func TestNew(t *testing.T) {
	for _, room := range []int{math.MinInt, -1, 0, api.MaxRoom + 1, math.MaxInt} {
		if b, e := mail.New[int](room); b != nil || e != api.ErrArg {
			t.Errorf("New(%d): %d", room, e)
		}
	}
	for _, room := range []int{1, 4, api.MaxRoom} {
		b := made[int](t, room)
		if b.Len() != 0 || b.Closed() {
			t.Errorf("New(%d): %d messages, closed %v", room, b.Len(), b.Closed())
		}
		for i := range room {
			if !b.Send(i) {
				t.Fatalf("room %d: no room for %d", room, i)
			}
		}
		if b.Send(room) || b.Len() != room {
			t.Errorf("room %d: one more", room)
		}
		for i := range room {
			if x, ok := b.Recv(); x != i || !ok {
				t.Fatalf("room %d: %d, %v at %d", room, x, ok, i)
			}
		}
	}
}

func TestExampleRun(t *testing.T) {
	b := made[int](t, 2)
	if !b.Send(1) || !b.Send(2) || b.Send(3) {
		t.Error("Send")
	}
	if x, ok := b.Recv(); x != 1 || !ok {
		t.Error(x, ok)
	}
	b.Close()
	if b.Send(4) || b.Len() != 1 {
		t.Error("Send to a closed mailbox")
	}
	if x, ok := b.Recv(); x != 2 || !ok {
		t.Error(x, ok)
	}
	if x, ok := b.Recv(); x != 0 || ok {
		t.Error(x, ok)
	}
}

func TestClose(t *testing.T) {
	b := made(t, 3, "a", "b")
	b.Close()
	b.Close()
	if !b.Closed() || b.Len() != 2 || b.Send("c") {
		t.Error("a closed mailbox")
	}
	for _, want := range []string{"a", "b"} {
		if x, ok := b.Recv(); x != want || !ok {
			t.Error(x, ok)
		}
	}
	for range 3 {
		if x, ok := b.Recv(); x != "" || ok || b.Len() != 0 || b.Send("d") || !b.Closed() {
			t.Error(x, ok)
		}
	}
	e := made[string](t, 1)
	e.Close()
	if x, ok := e.Recv(); x != "" || ok {
		t.Error(x, ok)
	}
}

func TestRecvOfNothing(t *testing.T) {
	b := made[*int](t, 1)
	if x, ok := b.Recv(); x != nil || ok {
		t.Error(x, ok)
	}
	n := 5
	b.Send(&n)
	if x, ok := b.Recv(); x != &n || !ok {
		t.Error("another pointer")
	}
	if x, ok := b.Recv(); x != nil || ok {
		t.Error(x, ok)
	}
	if b.Send(nil); b.Len() != 1 {
		t.Error("nil is a message")
	}
	if x, ok := b.Recv(); x != nil || !ok {
		t.Error(x, ok)
	}
}

func TestFirst(t *testing.T) {
	empty, two, one := made[int](t, 4), made(t, 4, 7, 8), made(t, 4, 9)
	for _, want := range []struct {
		i, x int
		ok   bool
	}{{2, 7, true}, {2, 8, true}, {3, 9, true}, {-1, 0, false}, {-1, 0, false}} {
		i, x, ok := mail.First(empty, nil, two, one)
		if i != want.i || x != want.x || ok != want.ok {
			t.Error(i, x, ok, want)
		}
	}
	if i, x, ok := mail.First[string](); i != -1 || x != "" || ok {
		t.Error(i, x, ok)
	}
	if i, x, ok := mail.First[string](nil, nil); i != -1 || x != "" || ok {
		t.Error(i, x, ok)
	}
}

func TestFirstTakesOneMessageOnly(t *testing.T) {
	a, b := made(t, 2, 1, 2), made(t, 2, 3)
	mail.First(a, b)
	if a.Len() != 1 || b.Len() != 1 {
		t.Error(a.Len(), b.Len())
	}
	a.Close()
	if i, x, ok := mail.First(b, a); i != 0 || x != 3 || !ok {
		t.Error(i, x, ok)
	}
	if i, x, ok := mail.First(b, a); i != 1 || x != 2 || !ok {
		t.Error("what a closed mailbox contains", i, x, ok)
	}
}

// TestEachOnceInOrder holds a mailbox against a plain list, through many calls.
func TestEachOnceInOrder(t *testing.T) {
	for _, room := range []int{1, 2, 5, 50} {
		b := made[[2]int](t, room)
		var l [][2]int
		seed := uint32(room)
		for i := range 3000 {
			seed = seed*1664525 + 1013904223
			if seed>>24 < 130 {
				x := [2]int{i, -i}
				can := len(l) < room
				if b.Send(x) != can {
					t.Fatal("Send", i)
				}
				if can {
					l = append(l, x)
				}
			} else {
				x, ok := b.Recv()
				if ok != (len(l) > 0) || ok && x != l[0] || !ok && x != [2]int{} {
					t.Fatal("Recv", x, ok)
				}
				l = l[min(1, len(l)):]
			}
			if b.Len() != len(l) {
				t.Fatal(b.Len(), len(l))
			}
		}
	}
}
