package wire

import (
	"math"

	"spoor/api"
)

// Reader decodes bytes from the first one on, until a value cannot be decoded.
type Reader struct {
	b   []byte
	at  int
	err api.Errno
}

// Read returns a reader of b.
func Read(b []byte) *Reader {
	return &Reader{b: append([]byte(nil), b...)}
}

// Num decodes a number.
func (r *Reader) Num() int {
	return r.Upto(math.MaxInt)
}

// Upto decodes a number that is at most most.
func (r *Reader) Upto(most int) int {
	if r.err != api.OK {
		return 0
	}
	n, next, err := number(r.b, r.at, most)
	if err != api.OK {
		r.err = err
		return 0
	}
	r.at = next
	return n
}

// Flag decodes a boolean.
func (r *Reader) Flag() bool {
	start := r.at
	n := r.Num()
	if n > 1 {
		r.fail(api.ErrForm, start)
		return false
	}
	return n == 1
}

// Text decodes a string of at most most bytes.
func (r *Reader) Text(most int) string {
	start := r.at
	n := r.Upto(most)
	if r.err != api.OK {
		return ""
	}
	if n > len(r.b)-r.at {
		r.fail(api.ErrShort, start)
		return ""
	}
	r.at += n
	return string(r.b[r.at-n : r.at])
}

// Err returns the reader's error.
func (r *Reader) Err() api.Errno {
	return r.err
}

// At returns the reader's position.
func (r *Reader) At() int {
	return r.at
}

// End returns the reader's error, which is ErrTail if there was none and bytes are left.
func (r *Reader) End() api.Errno {
	if r.err == api.OK && r.at < len(r.b) {
		r.err = api.ErrTail
	}
	return r.err
}

// Items decodes a list of at most most elements, each by a call of one.
func Items[T any](r *Reader, most int, one func(r *Reader) T) []T {
	start := r.at
	n := r.Upto(most)
	if r.err != api.OK {
		return nil
	}
	// Every element takes a byte at least: no hostile number makes the list long.
	if n > len(r.b)-r.at {
		r.fail(api.ErrShort, start)
		return nil
	}
	var l []T
	for i := 0; i < n && r.err == api.OK; i++ {
		l = append(l, one(r))
	}
	if r.err != api.OK {
		return nil
	}
	return l
}

// fail gives the reader an error for the value that begins at start.
func (r *Reader) fail(err api.Errno, start int) {
	r.err = err
	r.at = start
}

// number decodes the number at position at of b, and tells where it ends.
func number(b []byte, at, most int) (int, int, api.Errno) {
	if at == len(b) {
		return 0, 0, api.ErrShort
	}
	k := int(b[at])
	if k > 8 {
		return 0, 0, api.ErrForm
	}
	at++
	if k > len(b)-at {
		return 0, 0, api.ErrShort
	}
	n := uint64(0)
	for _, x := range b[at : at+k] {
		n = n<<8 | uint64(x)
	}
	if k > 0 && b[at] == 0 || n > math.MaxInt64 {
		return 0, 0, api.ErrForm
	}
	// The two are compared as int: most may be negative, and n is not too great any more.
	if int(n) > most {
		return 0, 0, api.ErrLong
	}
	return int(n), at + k, api.OK
}
