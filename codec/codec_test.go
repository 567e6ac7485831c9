package codec

import (
	"math"
	"math/big"
	"strings"
	"testing"

	"cartulary/api"
)

// numbers are those about every power of two: all lengths of a number begin and end there.
func numbers() []int {
	out := []int{300, -300, 0x0102030405060708}
	for i := range 64 {
		p := 1 << i
		out = append(out, p-1, p, p+1, -p-1, -p, -p+1)
	}
	return out
}

// sevens is the form of a number from 0 on, worked out by division.
func sevens(u *big.Int) string {
	out := ""
	rest, low := new(big.Int).Set(u), new(big.Int)
	for {
		rest.DivMod(rest, big.NewInt(128), low)
		if rest.Sign() == 0 {
			return out + string([]byte{byte(low.Int64())})
		}
		out += string([]byte{byte(low.Int64() + 128)})
	}
}

// doubled is 2n, or -2n - 1 of n below 0.
func doubled(n int) *big.Int {
	u := new(big.Int).Mul(big.NewInt(int64(n)), big.NewInt(2))
	if n < 0 {
		u.Neg(u)
		u.Sub(u, big.NewInt(1))
	}
	return u
}

func written(t *testing.T, write func(*Writer) api.Errno) string {
	t.Helper()
	w := New()
	if e := write(w); e != api.OK {
		t.Errorf("written: %v", e)
	}
	return w.Out()
}

// 2.1: the forms that the document shows, and the edges of each length.
func TestForms(t *testing.T) {
	for n, want := range map[int]string{
		0: "\x00", 1: "\x01", 127: "\x7f", 128: "\x80\x01", 300: "\xac\x02", 16383: "\xff\x7f", 16384: "\x80\x80\x01",
		math.MaxInt: "\xff\xff\xff\xff\xff\xff\xff\xff\x7f",
	} {
		if got := written(t, func(w *Writer) api.Errno { return w.Uint(n) }); got != want {
			t.Errorf("Uint(%d): %x", n, got)
		}
	}
	for n, want := range map[int]string{
		0: "\x00", -1: "\x01", 1: "\x02", 63: "\x7e", -64: "\x7f", 64: "\x80\x01", -65: "\x81\x01",
		math.MaxInt: "\xfe\xff\xff\xff\xff\xff\xff\xff\xff\x01", math.MinInt: "\xff\xff\xff\xff\xff\xff\xff\xff\xff\x01",
	} {
		if got := written(t, func(w *Writer) api.Errno { return w.Int(n) }); got != want {
			t.Errorf("Int(%d): %x", n, got)
		}
	}
	for _, c := range []struct {
		n, size int
		want    string
	}{
		{0, 1, "\x00"}, {255, 1, "\xff"}, {258, 2, "\x02\x01"}, {65535, 2, "\xff\xff"}, {258, 4, "\x02\x01\x00\x00"},
		{1<<32 - 1, 4, "\xff\xff\xff\xff"}, {0x0102030405060708, 8, "\x08\x07\x06\x05\x04\x03\x02\x01"},
		{math.MaxInt, 8, "\xff\xff\xff\xff\xff\xff\xff\x7f"}, {0, 8, "\x00\x00\x00\x00\x00\x00\x00\x00"},
	} {
		if got := written(t, func(w *Writer) api.Errno { return w.Fixed(c.n, c.size) }); got != c.want {
			t.Errorf("Fixed(%d, %d): %x", c.n, c.size, got)
		}
	}
	for s, want := range map[string]string{"": "\x00", "ab": "\x02ab", "\x00\xff": "\x02\x00\xff"} {
		if got := written(t, func(w *Writer) api.Errno { return w.Text(s) }); got != want {
			t.Errorf("Text(%q): %x", s, got)
		}
	}
	long := strings.Repeat("x", 65535)
	if got := written(t, func(w *Writer) api.Errno { return w.Text(long) }); got != "\xff\xff\x03"+long {
		t.Errorf("Text of 65535 bytes: %d bytes", len(got))
	}
}

// 2.1, 2.2, 2.4: each number is written in its form, and read again from it.
func TestNumbers(t *testing.T) {
	for _, n := range numbers() {
		form := sevens(doubled(n))
		if got := written(t, func(w *Writer) api.Errno { return w.Int(n) }); got != form {
			t.Errorf("Int(%d): %x, want %x", n, got, form)
		}
		r := Of(form)
		if got, e := r.Int(); got != n || e != api.OK || r.Left() != 0 || r.End() != api.OK {
			t.Errorf("Int of %x: %d, %v", form, got, e)
		}
		if n < 0 {
			continue
		}
		form = sevens(big.NewInt(int64(n)))
		if got := written(t, func(w *Writer) api.Errno { return w.Uint(n) }); got != form {
			t.Errorf("Uint(%d): %x, want %x", n, got, form)
		}
		r = Of(form)
		if got, e := r.Uint(); got != n || e != api.OK || r.Left() != 0 || r.End() != api.OK {
			t.Errorf("Uint of %x: %d, %v", form, got, e)
		}
	}
}

// isOf tells whether n is a fixed number of that size.
func isOf(n, size int) bool {
	top := new(big.Int).Lsh(big.NewInt(1), uint(8*size))
	if size == 8 {
		top.Lsh(big.NewInt(1), 63)
	}
	return n >= 0 && big.NewInt(int64(n)).Cmp(top) < 0
}

// 2.1, 2.2, 2.4
func TestFixed(t *testing.T) {
	for _, size := range []int{1, 2, 4, 8} {
		for _, n := range numbers() {
			w := New()
			if !isOf(n, size) {
				if e := w.Fixed(n, size); e != api.ErrArg || w.Out() != "" {
					t.Errorf("Fixed(%d, %d): %v", n, size, e)
				}
				continue
			}
			if e := w.Fixed(n, size); e != api.OK || len(w.Out()) != size {
				t.Errorf("Fixed(%d, %d): %v, %x", n, size, e, w.Out())
			}
			r := Of(w.Out() + "z")
			if got, e := r.Fixed(size); got != n || e != api.OK || r.Left() != 1 {
				t.Errorf("Fixed(%d) of %x: %d, %v", size, w.Out(), got, e)
			}
		}
	}
}

func wrongSizes() []int {
	return []int{math.MinInt, -8, -1, 0, 3, 5, 6, 7, 9, 16, 1<<32 + 1, math.MaxInt}
}

// 2.1 and R4: what is refused is not written, and what was written stays.
func TestWriterRefuses(t *testing.T) {
	w := New()
	w.Uint(5)
	for _, n := range []int{-1, -128, math.MinInt} {
		if e := w.Uint(n); e != api.ErrArg {
			t.Errorf("Uint(%d): %v", n, e)
		}
	}
	for _, size := range wrongSizes() {
		if e := w.Fixed(0, size); e != api.ErrArg {
			t.Errorf("Fixed(0, %d): %v", size, e)
		}
	}
	if e := w.Text(strings.Repeat("x", 65536)); e != api.ErrLong {
		t.Errorf("Text of 65536 bytes: %v", e)
	}
	if w.Out() != "\x05" {
		t.Errorf("Out: %x", w.Out())
	}
	if e := w.Text("a"); e != api.OK || w.Out() != "\x05\x01a" {
		t.Errorf("Text behind what was refused: %v, %x", e, w.Out())
	}
}

// 2.1 and R3: Out tells all, may be asked again, and what it told stays as it was.
func TestOut(t *testing.T) {
	w := New()
	if w.Out() != "" {
		t.Errorf("Out of a new writer: %x", w.Out())
	}
	want, before := "", ""
	for i := range 100 {
		w.Uint(i)
		want += string([]byte{byte(i)})
		got := w.Out()
		if got != want || w.Out() != want || before != want[:i] {
			t.Fatalf("Out: %x, before it %x, want %x", got, before, want)
		}
		before = got
	}
	if New().Out() != "" {
		t.Error("a second writer has the first one's bytes")
	}
}

// read is one of a reader's reads, without what it reads.
type read struct {
	name string
	call func(*Reader) (any, api.Errno)
	zero any
}

func reads() []read {
	return []read{
		{"Uint", func(r *Reader) (any, api.Errno) { n, e := r.Uint(); return n, e }, 0},
		{"Int", func(r *Reader) (any, api.Errno) { n, e := r.Int(); return n, e }, 0},
		{"Fixed(1)", func(r *Reader) (any, api.Errno) { n, e := r.Fixed(1); return n, e }, 0},
		{"Fixed(2)", func(r *Reader) (any, api.Errno) { n, e := r.Fixed(2); return n, e }, 0},
		{"Fixed(4)", func(r *Reader) (any, api.Errno) { n, e := r.Fixed(4); return n, e }, 0},
		{"Fixed(8)", func(r *Reader) (any, api.Errno) { n, e := r.Fixed(8); return n, e }, 0},
		{"Text(3)", func(r *Reader) (any, api.Errno) { s, e := r.Text(3); return s, e }, ""},
	}
}

// 2.2: what is wrong in the bytes, byte by byte.
func TestReadErrors(t *testing.T) {
	ff8 := strings.Repeat("\xff", 8)
	e8 := strings.Repeat("\x80", 8)
	for _, c := range []struct {
		name, s string
		want    api.Errno
	}{
		{"Uint", "", api.ErrCut}, {"Uint", "\x80", api.ErrCut}, {"Uint", ff8, api.ErrCut},
		{"Uint", "\x80\x00", api.ErrForm}, {"Uint", "\x80\x00\x01", api.ErrForm}, {"Uint", "\xff\x80\x00", api.ErrForm},
		{"Uint", e8 + "\x00", api.ErrForm}, {"Uint", ff8 + "\x80", api.ErrForm}, {"Uint", ff8 + "\xff", api.ErrForm},
		{"Uint", ff8 + "\x80\x01", api.ErrForm}, {"Uint", ff8 + "\x7f", api.OK}, {"Uint", e8 + "\x01", api.OK}, {"Uint", "\x00", api.OK},

		{"Int", "", api.ErrCut}, {"Int", "\x80", api.ErrCut}, {"Int", ff8, api.ErrCut}, {"Int", ff8 + "\xff", api.ErrCut},
		{"Int", "\x80\x00", api.ErrForm}, {"Int", "\x81\x80\x00", api.ErrForm}, {"Int", e8 + "\x00", api.ErrForm},
		{"Int", e8 + "\x80\x00", api.ErrForm}, {"Int", ff8 + "\xff\x02", api.ErrForm}, {"Int", ff8 + "\xff\x80", api.ErrForm},
		{"Int", ff8 + "\xff\x81", api.ErrForm}, {"Int", ff8 + "\xff\x7f", api.ErrForm},
		{"Int", ff8 + "\xff\x01", api.OK}, {"Int", ff8 + "\x7f", api.OK}, {"Int", e8 + "\x80\x01", api.OK},

		{"Fixed(1)", "", api.ErrCut}, {"Fixed(2)", "a", api.ErrCut}, {"Fixed(4)", "abc", api.ErrCut}, {"Fixed(8)", "abcdefg", api.ErrCut},
		{"Fixed(8)", "\xff\xff\xff\xff\xff\xff\xff", api.ErrCut}, {"Fixed(8)", "\x00\x00\x00\x00\x00\x00\x00\x80", api.ErrForm}, {"Fixed(8)", ff8, api.ErrForm},
		{"Fixed(8)", "\xff\xff\xff\xff\xff\xff\xff\x7f", api.OK}, {"Fixed(4)", "\xff\xff\xff\xff", api.OK},

		{"Text(3)", "", api.ErrCut}, {"Text(3)", "\x83", api.ErrCut}, {"Text(3)", "\x83\x00abc", api.ErrForm}, {"Text(3)", ff8 + "\x80", api.ErrForm},
		{"Text(3)", "\x04abcd", api.ErrLong}, {"Text(3)", "\x04", api.ErrLong}, {"Text(3)", ff8 + "\x7f", api.ErrLong},
		{"Text(3)", "\x03ab", api.ErrCut}, {"Text(3)", "\x01", api.ErrCut}, {"Text(3)", "\x03abc", api.OK}, {"Text(3)", "\x00", api.OK},
	} {
		for _, x := range reads() {
			if x.name == c.name {
				checkRead(t, x, c.s, c.want)
			}
		}
	}
}

// checkRead is one read at the beginning of s; of one that fails also 2.3: it takes no byte and its error stays.
func checkRead(t *testing.T, x read, s string, want api.Errno) {
	t.Helper()
	r := Of(s)
	got, e := x.call(r)
	if e != want {
		t.Errorf("%s of %x: %v, want %v", x.name, s, e, want)
		return
	}
	if want == api.OK {
		if r.Left() != 0 || r.End() != api.OK {
			t.Errorf("%s of %x: %d left, %v", x.name, s, r.Left(), r.End())
		}
		return
	}
	if got != x.zero {
		t.Errorf("%s of %x: %v beside an error", x.name, s, got)
	}
	for _, y := range reads() {
		if got, e := y.call(r); got != y.zero || e != want {
			t.Errorf("%s of %x, then %s: %v, %v", x.name, s, y.name, got, e)
		}
	}
	if r.Left() != len(s) || r.End() != want {
		t.Errorf("%s of %x: %d left, %v", x.name, s, r.Left(), r.End())
	}
}

// 2.2: the most that may be is any number from 0 on, of a text that is there.
func TestTextMost(t *testing.T) {
	long := strings.Repeat("x", 65535)
	for _, c := range []struct {
		s, want string
		most    int
		e       api.Errno
	}{
		{"\x00", "", 0, api.OK}, {"\x01a", "", 0, api.ErrLong}, {"\x01a", "a", 1, api.OK}, {"\x02ab", "ab", math.MaxInt, api.OK},
		{"\xff\xff\x03" + long, long, 65535, api.OK}, {"\xff\xff\x03" + long, "", 65534, api.ErrLong},
		{"\xff\xff\xff\xff\xff\xff\xff\xff\x7fab", "", math.MaxInt, api.ErrCut},
		{"\x80\x80\x04" + long + "x", long + "x", math.MaxInt, api.OK},
	} {
		if got, e := Of(c.s).Text(c.most); got != c.want || e != c.e {
			t.Errorf("Text(%d): %d bytes, %v; want %d, %v", c.most, len(got), e, len(c.want), c.e)
		}
	}
}

// 2.2: a wrong argument goes ahead of the reader's error, and does not become it.
func TestReaderArguments(t *testing.T) {
	fresh, failed := Of("\x01a"), Of("\x80\x00")
	failed.Uint()
	for _, r := range []*Reader{fresh, failed, nil} {
		for _, size := range wrongSizes() {
			if n, e := r.Fixed(size); n != 0 || e != api.ErrArg {
				t.Errorf("Fixed(%d): %d, %v", size, n, e)
			}
		}
		for _, most := range []int{-1, math.MinInt} {
			if s, e := r.Text(most); s != "" || e != api.ErrArg {
				t.Errorf("Text(%d): %q, %v", most, s, e)
			}
		}
	}
	if failed.End() != api.ErrForm || failed.Left() != 2 {
		t.Errorf("failed: %v, %d left", failed.End(), failed.Left())
	}
	if s, e := fresh.Text(1); s != "a" || e != api.OK || fresh.End() != api.OK {
		t.Errorf("fresh: %q, %v", s, e)
	}
}

// 2.3: what was read ahead of a failure stays taken; End's own ErrForm is no reader's error.
func TestLeftAndEnd(t *testing.T) {
	r := Of("\x05\x80\x00")
	if r.Left() != 3 || r.End() != api.ErrForm {
		t.Errorf("at first: %d, %v", r.Left(), r.End())
	}
	if n, e := r.Uint(); n != 5 || e != api.OK || r.Left() != 2 {
		t.Errorf("behind End: %d, %v, %d left", n, e, r.Left())
	}
	if n, e := r.Uint(); n != 0 || e != api.ErrForm || r.Left() != 2 {
		t.Errorf("failed: %d, %v, %d left", n, e, r.Left())
	}
	if n, e := r.Fixed(1); n != 0 || e != api.ErrForm || r.Left() != 2 || r.End() != api.ErrForm {
		t.Errorf("behind it: %d, %v, %d left", n, e, r.Left())
	}
	r = Of("ab")
	if _, e := r.Fixed(4); e != api.ErrCut || r.End() != api.ErrCut {
		t.Errorf("End, some left: %v, want the reader's error", r.End())
	}
	for _, r := range []*Reader{Of(""), {}} {
		if r.Left() != 0 || r.End() != api.OK {
			t.Errorf("without bytes: %d, %v", r.Left(), r.End())
		}
	}
	if _, e := Of("").Uint(); e != api.ErrCut {
		t.Errorf("without bytes: %v", e)
	}
}

// What a nil writer and a nil reader do.
func TestNil(t *testing.T) {
	var w *Writer
	for i, e := range []api.Errno{w.Uint(1), w.Int(-1), w.Fixed(1, 1), w.Fixed(255, 8), w.Text(""), w.Text("a")} {
		if e != api.ErrState {
			t.Errorf("write %d: %v", i, e)
		}
	}
	for i, e := range []api.Errno{w.Uint(-1), w.Fixed(1, 3), w.Fixed(256, 1), w.Fixed(-1, 8)} {
		if e != api.ErrArg {
			t.Errorf("wrong write %d: %v", i, e)
		}
	}
	if e := w.Text(strings.Repeat("x", 65536)); e != api.ErrLong {
		t.Errorf("wrong text: %v", e)
	}
	if w.Out() != "" {
		t.Errorf("Out: %x", w.Out())
	}
	var r *Reader
	for range 2 {
		for _, x := range reads() {
			if got, e := x.call(r); got != x.zero || e != api.ErrCut {
				t.Errorf("%s: %v, %v", x.name, got, e)
			}
		}
		if r.Left() != 0 || r.End() != api.OK {
			t.Errorf("%d left, %v", r.Left(), r.End())
		}
	}
}

// 2.4: all that was written, of all kinds and one behind the other, is read in its order, and nothing is left.
func TestThereAndBack(t *testing.T) {
	w := New()
	texts := []string{"", "a", "\x80\x00", strings.Repeat("y", 127), strings.Repeat("z", 128), strings.Repeat("x", 65535)}
	for i, n := range numbers() {
		u := n & math.MaxInt
		for _, e := range []api.Errno{w.Int(n), w.Uint(u), w.Fixed(u, 8), w.Fixed(u&0xffff, 2), w.Text(texts[i%len(texts)])} {
			if e != api.OK {
				t.Fatal(e)
			}
		}
	}
	r := Of(w.Out())
	for i, n := range numbers() {
		a, e1 := r.Int()
		b, e2 := r.Uint()
		c, e3 := r.Fixed(8)
		d, e4 := r.Fixed(2)
		s, e5 := r.Text(65535)
		u := n & math.MaxInt
		if a != n || b != u || c != u || d != u&0xffff || s != texts[i%len(texts)] {
			t.Fatalf("%d: %d, %d, %d, %d, %d bytes", n, a, b, c, d, len(s))
		}
		if e1 != api.OK || e2 != api.OK || e3 != api.OK || e4 != api.OK || e5 != api.OK {
			t.Fatalf("%d: %v, %v, %v, %v, %v", n, e1, e2, e3, e4, e5)
		}
	}
	if r.Left() != 0 || r.End() != api.OK {
		t.Errorf("%d left, %v", r.Left(), r.End())
	}
}

// byteTexts are all texts of up to two bytes and, behind bytes that do not end a number, many of up to twelve.
func byteTexts() []string {
	out := []string{""}
	for a := range 256 {
		out = append(out, string([]byte{byte(a)}))
		for b := range 256 {
			out = append(out, string([]byte{byte(a), byte(b)}))
		}
	}
	for _, head := range []string{"\x80", "\x81", "\xff"} {
		for n := 2; n < 11; n++ {
			for b := range 256 {
				out = append(out, strings.Repeat(head, n)+string([]byte{byte(b)}), strings.Repeat(head, n)+string([]byte{byte(b), 1}))
			}
		}
	}
	return out
}

// 2.4, P1 and R6: whatever the bytes are, a read ends, the same of the same bytes; and what it took is the number's one form.
func TestOneForm(t *testing.T) {
	for _, s := range byteTexts() {
		r := Of(s)
		if n, e := r.Uint(); e == api.OK {
			if form := written(t, func(w *Writer) api.Errno { return w.Uint(n) }); form+s[len(s)-r.Left():] != s {
				t.Fatalf("Uint of %x: %d, whose form is %x", s, n, form)
			}
		}
		r = Of(s)
		if n, e := r.Int(); e == api.OK {
			if form := written(t, func(w *Writer) api.Errno { return w.Int(n) }); form+s[len(s)-r.Left():] != s {
				t.Fatalf("Int of %x: %d, whose form is %x", s, n, form)
			}
		}
		for _, x := range reads() {
			checkTotal(t, x, s)
		}
	}
}

func checkTotal(t *testing.T, x read, s string) {
	t.Helper()
	r, again := Of(s), Of(s)
	got, e := x.call(r)
	got2, e2 := x.call(again)
	if got != got2 || e != e2 || r.Left() != again.Left() {
		t.Fatalf("%s of %x: %v, %v, and then %v, %v", x.name, s, got, e, got2, e2)
	}
	if r.Left() < 0 || r.Left() > len(s) || e != api.OK && (got != x.zero || r.Left() != len(s)) {
		t.Fatalf("%s of %x: %v, %v, %d left", x.name, s, got, e, r.Left())
	}
}
