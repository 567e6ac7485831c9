// Package codec is layer 2: numbers and texts in few bytes. See shared/doc/02-codec.md.
package codec

import "cartulary/api"

const (
	maxText = 65535

	// A number from 0 on has 63 bits, seven a byte; any number has 64, so its tenth byte has one.
	uintBytes = 9
	uintLast  = 127
	intBytes  = 10
	intLast   = 1
)

// Writer writes numbers and texts.
type Writer struct{ out []byte }

// New is a writer without bytes.
func New() *Writer { return &Writer{} }

// Uint writes a number from 0 on.
func (w *Writer) Uint(n int) api.Errno {
	if n < 0 {
		return api.ErrArg
	}
	return w.number(uint64(n))
}

// Int writes any number.
func (w *Writer) Int(n int) api.Errno {
	return w.number(fold(n))
}

// Fixed writes a number in size bytes, the lowest first.
func (w *Writer) Fixed(n, size int) api.Errno {
	if !isFixed(n, size) {
		return api.ErrArg
	}
	if w == nil {
		return api.ErrState
	}
	for i := range size {
		w.out = append(w.out, byte(n>>(8*i)))
	}
	return api.OK
}

// Text writes a text's length and its bytes.
func (w *Writer) Text(s string) api.Errno {
	if len(s) > maxText {
		return api.ErrLong
	}
	if e := w.number(uint64(len(s))); e != api.OK {
		return e
	}
	w.out = append(w.out, s...)
	return api.OK
}

// Out is all that was written.
func (w *Writer) Out() string {
	if w == nil {
		return ""
	}
	return string(w.out)
}

// number writes seven bits a byte, the lowest first.
func (w *Writer) number(u uint64) api.Errno {
	if w == nil {
		return api.ErrState
	}
	for u > 127 {
		w.out = append(w.out, byte(u)|128)
		u >>= 7
	}
	w.out = append(w.out, byte(u))
	return api.OK
}

// Reader reads numbers and texts.
type Reader struct {
	rest string
	err  api.Errno
}

// Of is a reader of the bytes of s.
func Of(s string) *Reader { return &Reader{rest: s} }

// Uint reads a number from 0 on.
func (r *Reader) Uint() (int, api.Errno) {
	if e := r.fault(); e != api.OK {
		return 0, e
	}
	u, size, e := number(r.rest, uintBytes, uintLast)
	return int(u), r.take(size, e)
}

// Int reads any number.
func (r *Reader) Int() (int, api.Errno) {
	if e := r.fault(); e != api.OK {
		return 0, e
	}
	u, size, e := number(r.rest, intBytes, intLast)
	return unfold(u), r.take(size, e)
}

// Fixed reads a number of size bytes.
func (r *Reader) Fixed(size int) (int, api.Errno) {
	if !isSize(size) {
		return 0, api.ErrArg
	}
	if e := r.fault(); e != api.OK {
		return 0, e
	}
	if len(r.rest) < size {
		return 0, r.take(0, api.ErrCut)
	}
	n := 0
	for i := range size {
		n |= int(r.rest[i]) << (8 * i)
	}
	if n < 0 {
		return 0, r.take(0, api.ErrForm)
	}
	return n, r.take(size, api.OK)
}

// Text reads a text of at most so many bytes.
func (r *Reader) Text(most int) (string, api.Errno) {
	if most < 0 {
		return "", api.ErrArg
	}
	if e := r.fault(); e != api.OK {
		return "", e
	}
	length, size, e := number(r.rest, uintBytes, uintLast)
	switch {
	case e != api.OK:
		return "", r.take(0, e)
	case length > uint64(most):
		return "", r.take(0, api.ErrLong)
	case length > uint64(len(r.rest)-size):
		return "", r.take(0, api.ErrCut)
	}
	end := size + int(length)
	s := r.rest[size:end]
	return s, r.take(end, api.OK)
}

// Left is how many bytes are left.
func (r *Reader) Left() int {
	if r == nil {
		return 0
	}
	return len(r.rest)
}

// End tells whether all was read, and nothing failed.
func (r *Reader) End() api.Errno {
	switch {
	case r == nil:
		return api.OK
	case r.err != api.OK:
		return r.err
	case r.rest != "":
		return api.ErrForm
	}
	return api.OK
}

// fault is what a read fails with ahead of its first byte.
func (r *Reader) fault() api.Errno {
	if r == nil {
		return api.ErrCut
	}
	return r.err
}

// take ends a read. One that failed takes no byte, and its error stays.
func (r *Reader) take(size int, e api.Errno) api.Errno {
	if e != api.OK {
		r.err = e
		return e
	}
	r.rest = r.rest[size:]
	return api.OK
}

// number reads seven bits a byte, in at most so many bytes, of which the last that may be is at most last; and how many there are.
func number(s string, most int, last byte) (uint64, int, api.Errno) {
	u := uint64(0)
	for i := range len(s) {
		b := s[i]
		if b == 0 && i > 0 || b > last && i == most-1 {
			return 0, 0, api.ErrForm
		}
		u |= uint64(b&127) << (7 * i)
		if b < 128 {
			return u, i + 1, api.OK
		}
	}
	return 0, 0, api.ErrCut
}

// fold is 2n of a number that is not below 0, else -2n - 1: all bits turn if the highest is set.
func fold(n int) uint64 {
	return uint64(n)<<1 ^ uint64(n>>63)
}

func unfold(u uint64) int {
	return int(u>>1) ^ -int(u&1)
}

func isSize(size int) bool {
	return size == 1 || size == 2 || size == 4 || size == 8
}

func isFixed(n, size int) bool {
	return isSize(size) && n >= 0 && (size == 8 || n < 1<<(8*size))
}
