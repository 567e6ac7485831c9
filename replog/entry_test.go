package replog

import (
	"math"
	"strings"
	"testing"

	"cartulary/api"
)

// source is a source of numbers, always the same ones.
type source uint32

func (x *source) next(n int) int {
	*x = *x*1664525 + 1013904223
	return int(*x>>8) % n
}

// create is an entry of a view that creates /a.
func create(view, client, req int) api.Entry {
	return api.Entry{View: view, Client: client, Req: req, Op: api.Op{Kind: api.OpCreate, Path: "/a"}}
}

// with is an entry of which one thing is another one.
func with(change func(e *api.Entry)) api.Entry {
	e := create(1, 2, 3)
	change(&e)
	return e
}

// rightEntries are right, at the edges of what may be.
func rightEntries() []api.Entry {
	long := strings.Repeat("x", 4096)
	l := []api.Entry{{Req: 1}, {View: api.MaxSeq, Client: api.MaxSeq, Req: api.MaxSeq, Op: api.Op{Path: long, To: long, Data: long}}}
	for _, n := range []int{0, 1, 127, 128, 16383, 16384, 1 << 39, api.MaxSeq - 1, api.MaxSeq} {
		l = append(l, with(func(e *api.Entry) { e.View = n }), with(func(e *api.Entry) { e.Client = n }), with(func(e *api.Entry) { e.Req = max(n, 1) }))
	}
	// An operation may be none: its numbers may be any.
	for _, n := range []int{math.MinInt, math.MinInt + 1, -1 << 40, -65, -64, -1, 0, 1, 63, 64, 12, 1 << 40, math.MaxInt - 1, math.MaxInt} {
		l = append(l, with(func(e *api.Entry) { e.Op.Kind = n }), with(func(e *api.Entry) { e.Op.At = n }), with(func(e *api.Entry) { e.Op.N = n }))
	}
	for _, s := range []string{"", "/", "no path", "\x00\xff\x80", long[:127], long[:128], long[1:], long} {
		l = append(l, with(func(e *api.Entry) { e.Op.Path = s }), with(func(e *api.Entry) { e.Op.To = s }), with(func(e *api.Entry) { e.Op.Data = s }))
	}
	return l
}

// wrongEntries have one thing, or more, that is not right.
func wrongEntries() []api.Entry {
	l := []api.Entry{{}, {View: -1}, {View: math.MaxInt, Client: math.MaxInt, Req: math.MaxInt}}
	for _, n := range []int{math.MinInt, -api.MaxSeq, -1, api.MaxSeq + 1, 1 << 62, math.MaxInt} {
		l = append(l, with(func(e *api.Entry) { e.View = n }), with(func(e *api.Entry) { e.Client = n }), with(func(e *api.Entry) { e.Req = n }))
	}
	l = append(l, with(func(e *api.Entry) { e.Req = 0 }))
	for _, n := range []int{4097, 5000, 65535, 65536, 100000} {
		s := strings.Repeat("x", n)
		l = append(l, with(func(e *api.Entry) { e.Op.Path = s }), with(func(e *api.Entry) { e.Op.To = s }), with(func(e *api.Entry) { e.Op.Data = s }))
	}
	return l
}

// number are the bytes of a number from 0 on, as the document says them.
func number(u uint64) string {
	s := ""
	for u >= 128 {
		s += string([]byte{byte(u%128 + 128)})
		u /= 128
	}
	return s + string([]byte{byte(u)})
}

// signed are the bytes of any number.
func signed(n int) string {
	if n >= 0 {
		return number(2 * uint64(n))
	}
	return number(2*uint64(-(n+1)) + 1)
}

func text(s string) string {
	return number(uint64(len(s))) + s
}

// plainBytes are an entry's bytes, right or not, as the document says them.
func plainBytes(e api.Entry) string {
	return number(uint64(e.View)) + number(uint64(e.Client)) + number(uint64(e.Req)) +
		signed(e.Op.Kind) + signed(e.Op.At) + signed(e.Op.N) + text(e.Op.Path) + text(e.Op.To) + text(e.Op.Data)
}

func notDecoded(t *testing.T, s string, want api.Errno) {
	t.Helper()
	if e, n, f := Decode(s); e != (api.Entry{}) || n != 0 || f != want {
		t.Fatalf("Decode(%d bytes, %.40q): %v, %d, %v; want %v", len(s), s, e, n, f, want)
	}
}

func decoded(t *testing.T, s string, want api.Entry, size int) {
	t.Helper()
	if e, n, f := Decode(s); e != want || n != size || f != api.OK {
		t.Fatalf("Decode(%d bytes, %.40q): %v, %d, %v; want %v, %d", len(s), s, e, n, f, want, size)
	}
}

func TestExample(t *testing.T) {
	const bytes = "\x01\x02\x03\x02\x00\x00\x02\x2f\x61\x00\x00"
	if s, f := Encode(create(1, 2, 3)); s != bytes || f != api.OK {
		t.Errorf("Encode: %q, %v", s, f)
	}
	decoded(t, bytes, create(1, 2, 3), 11)
}

// 20.1

func TestEncode(t *testing.T) {
	for _, e := range rightEntries() {
		if s, f := Encode(e); s != plainBytes(e) || f != api.OK {
			t.Errorf("Encode: %d bytes, %.40q, %v; want %.40q", len(s), s, f, plainBytes(e))
		}
	}
}

func TestEncodeWrong(t *testing.T) {
	for _, e := range wrongEntries() {
		if s, f := Encode(e); s != "" || f != api.ErrForm {
			t.Errorf("Encode({%d %d %d ..}): %d bytes, %v", e.View, e.Client, e.Req, len(s), f)
		}
	}
}

// Each field has a place of its own.
func TestFields(t *testing.T) {
	e := api.Entry{View: 1, Client: 2, Req: 3, Op: api.Op{Kind: 4, At: -5, N: 6, Path: "p", To: "to", Data: "dat"}}
	const bytes = "\x01\x02\x03\x08\x09\x0c\x01p\x02to\x03dat"
	if s, f := Encode(e); s != bytes || f != api.OK {
		t.Errorf("Encode: %q, %v", s, f)
	}
	decoded(t, bytes, e, len(bytes))
}

// 20.4: what was encoded is decoded, with anything behind it; and of fewer bytes nothing is.
func TestDecode(t *testing.T) {
	for _, e := range rightEntries() {
		s, _ := Encode(e)
		for _, behind := range []string{"", "\x00", "\x80", "\xff\xff", "z", s, strings.Repeat("y", 5000)} {
			decoded(t, s+behind, e, len(s))
		}
		for n := range len(s) {
			if n < 100 || n > len(s)-10 {
				notDecoded(t, s[:n], api.ErrCut)
			}
		}
	}
}

// What is wrong with a number or a text itself, wherever it stands.
func TestDecodeCodec(t *testing.T) {
	parts := []string{"\x01", "\x02", "\x03", "\x02", "\x00", "\x00", "\x02/a", "\x00", "\x00"}
	put := func(at int, part string) string {
		return strings.Join(parts[:at], "") + part + strings.Join(parts[at+1:], "")
	}
	for at := range parts {
		notDecoded(t, put(at, "\x80\x00"), api.ErrForm)
		notDecoded(t, put(at, "\x81\x80\x00"), api.ErrForm)
		notDecoded(t, put(at, strings.Repeat("\xff", 10)+"\x01"), api.ErrForm)
		notDecoded(t, strings.Join(parts[:at], "")+"\x80", api.ErrCut)
	}
	nine := strings.Repeat("\x80", 8)
	for _, at := range []int{0, 1, 2, 6, 7, 8} {
		notDecoded(t, put(at, nine+"\x80\x01"), api.ErrForm)
	}
	for _, at := range []int{3, 4, 5} {
		notDecoded(t, put(at, nine+"\x80\x02"), api.ErrForm)
	}
	for _, at := range []int{6, 7, 8} {
		// A text's length comes ahead of whether its bytes are there.
		for _, behind := range []string{"", "x", strings.Repeat("x", 4097), strings.Repeat("x", 70000)} {
			for _, length := range []int{4097, 4098, 65535, 65536, math.MaxInt} {
				notDecoded(t, put(at, number(uint64(length))+behind), api.ErrLong)
			}
		}
		notDecoded(t, strings.Join(parts[:at], "")+number(4096)+strings.Repeat("x", 4095), api.ErrCut)
	}
}

// What is read, but is not right.
func TestDecodeWrong(t *testing.T) {
	for _, n := range []int{api.MaxSeq + 1, 1 << 62, math.MaxInt} {
		for _, e := range []api.Entry{with(func(e *api.Entry) { e.View = n }), with(func(e *api.Entry) { e.Client = n }), with(func(e *api.Entry) { e.Req = n })} {
			s := plainBytes(e)
			notDecoded(t, s, api.ErrForm)
			notDecoded(t, s+"behind", api.ErrForm)
		}
	}
	s := plainBytes(create(1, 2, 0))
	notDecoded(t, s, api.ErrForm)
	notDecoded(t, s+s, api.ErrForm)
}

// What can't be read comes ahead of what is read and is not right.
func TestDecodeOrder(t *testing.T) {
	for _, e := range []api.Entry{create(api.MaxSeq+1, 2, 3), create(1, math.MaxInt, 3), create(1, 2, api.MaxSeq+1), create(1, 2, 0)} {
		s := plainBytes(e)
		for n := range len(s) {
			notDecoded(t, s[:n], api.ErrCut)
		}
		notDecoded(t, s[:len(s)-1]+number(4097)+strings.Repeat("x", 4097), api.ErrLong)
		notDecoded(t, s[:len(s)-2]+number(5000), api.ErrLong)
	}
	// The first that can't be read counts.
	notDecoded(t, "\x01\x80\x00", api.ErrForm)
	notDecoded(t, "\x01\x02\x03\x02\x00\x00"+number(4097), api.ErrLong)
	notDecoded(t, "\x01\x02\x03\x02\x00\x00"+number(4096), api.ErrCut)
}

// Whatever the bytes, what is decoded is right and has no other bytes.
func TestGarbage(t *testing.T) {
	r := source(20)
	base := plainBytes(api.Entry{View: 300, Client: 2, Req: 70000, Op: api.Op{Kind: 3, At: -5, N: 1 << 30, Path: "/a/b", To: "/c", Data: "some text"}})
	good := 0
	for i := range 200000 {
		b := []byte(base)
		if i%2 == 0 {
			b = b[:r.next(len(b)+1)]
			for k := range b {
				b[k] = byte(r.next(256) >> r.next(8))
			}
		}
		for range r.next(4) {
			if len(b) > 0 {
				b[r.next(len(b))] ^= 1 << r.next(8)
			}
		}
		e, n, f := Decode(string(b))
		if f != api.OK {
			notDecoded(t, string(b), f)
			continue
		}
		good++
		if s, f := Encode(e); n > len(b) || s != string(b[:n]) || f != api.OK {
			t.Fatalf("Decode(%q): %v, %d, which is %q", b, e, n, s)
		}
	}
	if good < 1000 {
		t.Errorf("only %d were entries", good)
	}
}
