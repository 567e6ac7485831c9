package txn

import (
	"math"
	"reflect"
	"slices"
	"strings"
	"testing"

	"cartulary/api"
	"cartulary/sum"
)

// of is a block of one letter.
func of(letter byte) string {
	return strings.Repeat(string([]byte{letter}), api.BlockSize)
}

// change is a block that becomes one of that letter.
func change(block int, letter byte) api.Change {
	return api.Change{Block: block, Data: of(letter)}
}

// run are so many changes, of blocks from first on.
func run(first, count int, letter byte) []api.Change {
	l := []api.Change{}
	for i := range count {
		l = append(l, change(first+i, letter))
	}
	return l
}

// source is a source of numbers, always the same ones.
type source uint32

func (x *source) next(n int) int {
	*x = *x*1664525 + 1013904223
	return int(*x>>8) % n
}

// changes are right changes of at most so many blocks below that one.
func (x *source) changes(most, below int) []api.Change {
	l := []api.Change{}
	for b := range below {
		if len(l) < most && x.next(below) < most {
			l = append(l, change(b, byte(x.next(256))))
		}
	}
	return l
}

// rights are changes that are right, up to all edges.
func rights() [][]api.Change {
	return [][]api.Change{
		nil, {}, run(0, 1, 'a'), run(1023, 1, 'a'), run(500, 1, 0), run(1022, 2, 'b'), run(0, 47, 'c'), run(0, 48, 'd'), run(976, 48, 'e'),
		{change(0, 'a'), change(1023, 'b')}, {change(3, 'a'), change(4, 'a'), change(258, 'b')}, {change(255, 255), change(256, 0), change(257, 1)},
	}
}

// wrongs are changes that are not: by how many there are, by a block, by their order, by a block's bytes.
func wrongs() [][]api.Change {
	out := [][]api.Change{
		run(0, 49, 'a'), run(0, 1024, 'a'), run(-1, 1, 'a'), run(1024, 1, 'a'), run(-1, 2, 'a'), run(1023, 2, 'a'), run(976, 49, 'a'),
		{change(2, 'a'), change(2, 'a')}, {change(2, 'a'), change(2, 'b')}, {change(2, 'a'), change(1, 'a')}, {change(0, 'a'), change(0, 'a')},
		{change(1, 'a'), change(3, 'a'), change(2, 'a')}, {change(1, 'a'), change(2, 'a'), change(1, 'a')},
	}
	for _, b := range []int{math.MinInt, -1 << 32, -1024, 1025, 1 << 16, 1<<16 + 5, 1 << 32, math.MaxInt} {
		out = append(out, []api.Change{change(b, 'a')}, []api.Change{change(1, 'a'), change(b, 'a')}, []api.Change{change(b, 'a'), change(1, 'a')})
	}
	for _, n := range []int{0, 1, 127, 129, 256, 1 << 16} {
		wrong := api.Change{Block: 5, Data: strings.Repeat("a", n)}
		out = append(out, []api.Change{wrong}, []api.Change{change(1, 'a'), wrong}, []api.Change{wrong, change(9, 'a')})
	}
	return out
}

// same tells whether two lists of changes are one (R2: nil or empty).
func same(a, b []api.Change) bool {
	return slices.Equal(a, b)
}

// 7.1: changes that are right, and those that are not.
func TestCheck(t *testing.T) {
	for i, l := range rights() {
		if e := Check(l); e != api.OK {
			t.Errorf("right %d: %v", i, e)
		}
	}
	for i, l := range wrongs() {
		if e := Check(l); e != api.ErrTxn {
			t.Errorf("wrong %d: %v", i, e)
		}
	}
}

// 7.1: the document's example, and the changes of both written out.
func TestMerge(t *testing.T) {
	for i, c := range []struct{ a, b, want []api.Change }{
		{nil, nil, nil},
		{[]api.Change{}, nil, nil},
		{run(1, 1, 'a'), nil, run(1, 1, 'a')},
		{nil, run(1, 1, 'a'), run(1, 1, 'a')},
		{run(1, 1, 'a'), []api.Change{change(1, 'b'), change(2, 'c')}, []api.Change{change(1, 'b'), change(2, 'c')}},
		{[]api.Change{change(1, 'b'), change(2, 'c')}, run(1, 1, 'a'), []api.Change{change(1, 'a'), change(2, 'c')}},
		{[]api.Change{change(0, 'a'), change(9, 'b')}, []api.Change{change(3, 'c'), change(1023, 'd')}, []api.Change{change(0, 'a'), change(3, 'c'), change(9, 'b'), change(1023, 'd')}},
		{run(0, 48, 'a'), run(0, 48, 'b'), run(0, 48, 'b')},
		{run(0, 24, 'a'), run(24, 24, 'b'), append(run(0, 24, 'a'), run(24, 24, 'b')...)},
		{run(10, 48, 'a'), run(20, 38, 'b'), append(run(10, 10, 'a'), run(20, 38, 'b')...)},
	} {
		if got, e := Merge(c.a, c.b); !same(got, c.want) || e != api.OK {
			t.Errorf("%d: %v, %v", i, got, e)
		}
	}
}

// 7.1 and R4: what is not right goes ahead of what is too much.
func TestMergeRefuses(t *testing.T) {
	for i, wrong := range wrongs() {
		for _, right := range rights() {
			if got, e := Merge(wrong, right); got != nil || e != api.ErrTxn {
				t.Errorf("%d first: %v, %v", i, got, e)
			}
			if got, e := Merge(right, wrong); got != nil || e != api.ErrTxn {
				t.Errorf("%d second: %v, %v", i, got, e)
			}
		}
	}
	for i, c := range []struct{ a, b []api.Change }{
		{run(0, 48, 'a'), run(48, 1, 'b')}, {run(0, 1, 'a'), run(1, 48, 'b')}, {run(0, 48, 'a'), run(1, 48, 'a')}, {run(0, 48, 'a'), run(976, 48, 'b')}, {run(0, 25, 'a'), run(25, 24, 'b')},
	} {
		if got, e := Merge(c.a, c.b); got != nil || e != api.ErrLong {
			t.Errorf("%d: %v, %v", i, got, e)
		}
	}
}

// blocksOf are the blocks that changes leave, one change after the other.
func blocksOf(lists ...[]api.Change) map[int]string {
	out := map[int]string{}
	for _, l := range lists {
		for _, c := range l {
			out[c.Block] = c.Data
		}
	}
	return out
}

// 7.3: to merge is to change first by the one, and then by the other; and what is merged is right.
func TestMergePlain(t *testing.T) {
	x := source(7)
	long := 0
	for range 3000 {
		below := 1 + x.next(100)
		a, b := x.changes(x.next(49), below), x.changes(x.next(49), below)
		want := blocksOf(a, b)
		got, e := Merge(a, b)
		if len(want) > api.MaxChange {
			long++
			if got != nil || e != api.ErrLong {
				t.Fatalf("%d blocks: %v", len(want), e)
			}
			continue
		}
		if e != api.OK || Check(got) != api.OK || !reflect.DeepEqual(blocksOf(got), want) {
			t.Fatalf("%v, %v: %v, %v", a, b, got, e)
		}
	}
	if long == 0 {
		t.Error("no two were too many")
	}
}

// R3: an answer shares no memory with an argument, spare room too, and no argument is changed.
func TestMergeMemory(t *testing.T) {
	room := run(0, 20, 'r')
	a, b := room[:3], run(1, 20, 's')[:2]
	for _, c := range []struct{ a, b []api.Change }{{a, b}, {a, nil}, {nil, a}, {a, a}} {
		got, e := Merge(c.a, c.b)
		if e != api.OK {
			t.Fatal(e)
		}
		got = got[:cap(got)]
		for i := range got {
			got[i] = change(9, 'z')
		}
		if !same(room, run(0, 20, 'r')) || !same(b[:20], run(1, 20, 's')) {
			t.Fatal("an argument was changed")
		}
	}
}

// headOf is a head's text, byte by byte.
func headOf(seq uint64, count int, places []int, check int) string {
	b := []byte("T")
	for i := range 8 {
		b = append(b, byte(seq>>(8*i)))
	}
	b = append(b, byte(count))
	for _, p := range places {
		b = append(b, byte(p), byte(p>>8))
	}
	return string(append(b, byte(check), byte(check>>8), byte(check>>16), byte(check>>24)))
}

func blockOf(t *testing.T, text string) string {
	t.Helper()
	b, e := sum.Block(text)
	if e != api.OK {
		t.Fatalf("Block(%q): %v", text, e)
	}
	return b
}

// plain are a transaction's blocks by the document's words.
func plain(t *testing.T, seq int, l []api.Change) []string {
	t.Helper()
	places, data, all := []int{}, []string{}, ""
	for _, c := range l {
		places, data, all = append(places, c.Block), append(data, c.Data), all+c.Data
	}
	return append([]string{blockOf(t, headOf(uint64(seq), len(l), places, sum.Of(all)))}, data...)
}

// 7.2, 7.3: all that is right is encoded, and decoded again, with anything behind.
func TestEncode(t *testing.T) {
	for i, l := range rights() {
		for _, seq := range []int{1, 2, 255, 256, 1 << 32, api.MaxSeq - 1, api.MaxSeq} {
			b, e := Encode(seq, l)
			if want := plain(t, seq, l); !slices.Equal(b, want) || e != api.OK {
				t.Fatalf("Encode(%d, %d): %q, %v, want %q", seq, i, b, e, want)
			}
			for _, behind := range [][]string{nil, {""}, {of(0)}, {"short"}, b, {strings.Repeat("x", 1000), of(1)}} {
				got, x, n, e := Decode(append(slices.Clone(b), behind...))
				if got != seq || !same(x, l) || n != len(l)+1 || e != api.OK {
					t.Fatalf("Decode(Encode(%d, %d)): %d, %v, %d, %v", seq, i, got, x, n, e)
				}
			}
		}
	}
}

// 7.2: a head's bytes, written out.
func TestHead(t *testing.T) {
	b, e := Encode(1, nil)
	if e != api.OK || len(b) != 1 || len(b[0]) != 128 || b[0][:16] != "\x0e\x00T\x01\x00\x00\x00\x00\x00\x00\x00\x00\x00\x00\x00\x00" {
		t.Errorf("no changes: %q, %v", b, e)
	}
	b, e = Encode(api.MaxSeq, []api.Change{change(1023, 0)})
	check := sum.Of(strings.Repeat("\x00", 128))
	want := "\x10\x00T\x00\x00\x00\x00\x00\x01\x00\x00\x01\xff\x03" + string([]byte{byte(check), byte(check >> 8), byte(check >> 16), byte(check >> 24)}) + "\x00"
	if e != api.OK || len(b) != 2 || b[0][:19] != want || b[1] != of(0) {
		t.Errorf("one change: %q, %v", b, e)
	}
}

// 7.2 and R4: a number that is none goes ahead of changes that are not right.
func TestEncodeRefuses(t *testing.T) {
	for _, seq := range []int{math.MinInt, -1, 0, api.MaxSeq + 1, math.MaxInt} {
		for i, l := range append(rights(), wrongs()...) {
			if b, e := Encode(seq, l); b != nil || e != api.ErrArg {
				t.Errorf("Encode(%d, %d): %q, %v", seq, i, b, e)
			}
		}
	}
	for i, l := range wrongs() {
		for _, seq := range []int{1, api.MaxSeq} {
			if b, e := Encode(seq, l); b != nil || e != api.ErrTxn {
				t.Errorf("Encode(%d, %d): %q, %v", seq, i, b, e)
			}
		}
	}
}

// R3: what was encoded shares nothing with the changes, and what was decoded nothing with the blocks.
func TestMemory(t *testing.T) {
	l := run(3, 5, 'a')[:2]
	b, e := Encode(4, l)
	if e != api.OK || !same(l[:5], run(3, 5, 'a')) {
		t.Fatal(e)
	}
	blocks := append(slices.Clone(b), of('x'), of('y'))
	before := slices.Clone(blocks)
	for _, in := range [][]string{blocks, blocks[:3]} {
		_, x, _, e := Decode(in)
		if e != api.OK {
			t.Fatal(e)
		}
		x = x[:cap(x)]
		for i := range x {
			x[i] = change(0, 'z')
		}
		if !slices.Equal(blocks, before) {
			t.Fatal("the blocks were changed")
		}
	}
}

// checkNone holds that of blocks nothing is taken, and why.
func checkNone(t *testing.T, what string, blocks []string, want api.Errno) {
	t.Helper()
	if seq, l, n, e := Decode(blocks); seq != 0 || l != nil || n != 0 || e != want {
		t.Errorf("%s: %d, %v, %d, %v, want %v", what, seq, l, n, e, want)
	}
}

// 7.2 and R4: fewer blocks than are needed: ErrCut, if the head is one.
func TestDecodeCut(t *testing.T) {
	checkNone(t, "nil", nil, api.ErrCut)
	checkNone(t, "none", []string{}, api.ErrCut)
	for i, l := range rights() {
		b := plain(t, 9, l)
		for n := range b {
			checkNone(t, "cut", b[:n], api.ErrCut)
			// What is there is not looked at, if there is too little.
			if n > 1 {
				wrong := slices.Clone(b[:n])
				wrong[1] = "short"
				checkNone(t, "cut and wrong", wrong, api.ErrCut)
			}
		}
		if _, _, n, e := Decode(b); n != len(b) || e != api.OK {
			t.Errorf("%d: %d, %v", i, n, e)
		}
	}
}

// 7.2: the first block is no head; that goes ahead of too few blocks.
func TestDecodeNoHead(t *testing.T) {
	data := []string{of('a'), of('b')}
	check := sum.Of(of('a') + of('b'))
	right := headOf(7, 2, []int{3, 258}, check)
	texts := []string{
		"", "T", "H" + right[1:], "t" + right[1:], right[1:], " " + right, right[:9], right[:10], right[:len(right)-1], right[:len(right)-4], right + "\x00", right + right,
		headOf(0, 2, []int{3, 258}, check), headOf(api.MaxSeq+1, 2, []int{3, 258}, check), headOf(1<<63, 2, []int{3, 258}, check), headOf(math.MaxUint64, 2, []int{3, 258}, check), headOf(math.MaxInt64, 2, []int{3, 258}, check),
		headOf(7, 1, []int{3, 258}, check), headOf(7, 3, []int{3, 258}, check), headOf(7, 0, []int{3, 258}, check), headOf(7, 255, []int{3, 258}, check),
		headOf(7, 2, []int{3, 3}, check), headOf(7, 2, []int{258, 3}, check), headOf(7, 2, []int{3, 1024}, check), headOf(7, 2, []int{3, 65535}, check), headOf(7, 2, []int{0, 0}, check),
	}
	for _, text := range texts {
		head := blockOf(t, text)
		checkNone(t, text, append([]string{head}, data...), api.ErrForm)
		checkNone(t, text, []string{head}, api.ErrForm)
	}
	head := blockOf(t, right)
	for _, b := range []string{"", "T", right, sum.Seal(right), head[:127], head + "\x00", of(0), of('a'), of(255)} {
		checkNone(t, b, append([]string{b}, data...), api.ErrForm)
		checkNone(t, b, []string{b}, api.ErrForm)
	}
	if seq, _, n, e := Decode(append([]string{head}, data...)); seq != 7 || n != 3 || e != api.OK {
		t.Errorf("%d, %d, %v", seq, n, e)
	}
}

// 7.2: a head may have MaxChange changes and no more, though its block had room for more.
func TestDecodeMany(t *testing.T) {
	for count := 46; count <= 54; count++ {
		places, data := []int{}, []string{}
		for i := range count {
			places, data = append(places, i), append(data, of(byte(i)))
		}
		b := append([]string{blockOf(t, headOf(1, count, places, sum.Of(strings.Join(data, ""))))}, data...)
		if count > 48 {
			checkNone(t, "too many", b, api.ErrForm)
		} else if _, l, n, e := Decode(b); len(l) != count || n != count+1 || e != api.OK {
			t.Errorf("%d changes: %d, %d, %v", count, len(l), n, e)
		}
	}
}

// 7.2: a Data that is no block, though the bytes of all have the head's sum; and Data of another sum.
func TestDecodeData(t *testing.T) {
	a, b := of('a'), of('b')
	right := plain(t, 7, []api.Change{{Block: 3, Data: a}, {Block: 258, Data: b}})
	all := a + b
	for _, at := range []int{0, 1, 127, 129, 255, 256} {
		checkNone(t, "shifted", []string{right[0], all[:at], all[at:]}, api.ErrForm)
	}
	for _, data := range [][]string{{b, a}, {a, a}, {of(0), b}, {a, of(0)}, {"", all}, {all, ""}, {a, b + b}} {
		checkNone(t, "other", append([]string{right[0]}, data...), api.ErrForm)
	}
	for _, n := range []int{0, 1, 127, 129, 256} {
		data := strings.Repeat("a", n)
		checkNone(t, "no block", []string{blockOf(t, headOf(7, 1, []int{1}, sum.Of(data))), data}, api.ErrForm)
	}
	checkNone(t, "a sum of nothing", []string{blockOf(t, headOf(7, 0, nil, 1))}, api.ErrForm)
	checkNone(t, "a sum of none", []string{blockOf(t, headOf(7, 1, []int{1}, 0)), a}, api.ErrForm)
}

// 7.4: of which a bit is turned, nothing is taken; nor of which the last block is left out.
func TestTurned(t *testing.T) {
	for _, l := range [][]api.Change{nil, {change(5, 'x')}, {change(3, 'a'), change(4, 0), change(258, 255)}} {
		right := plain(t, 77, l)
		for i := range right {
			for bit := range 8 * api.BlockSize {
				turned := []byte(right[i])
				turned[bit/8] ^= 1 << (bit % 8)
				b := slices.Clone(right)
				b[i] = string(turned)
				checkNone(t, "turned", b, api.ErrForm)
			}
		}
		checkNone(t, "the last left out", right[:len(right)-1], api.ErrCut)
	}
}

// P1: whatever blocks have, what is decoded is what would be encoded so.
func TestTotal(t *testing.T) {
	x := source(11)
	taken := 0
	for range 20000 {
		count := x.next(5)
		l := x.changes(count, 8)
		b := plain(t, 1+x.next(3), l)
		for range x.next(3) {
			i := x.next(len(b))
			turned := []byte(b[i])
			turned[x.next(min(24, len(turned)))] = byte(x.next(5))
			b[i] = string(turned)
			if i == 0 && x.next(4) > 0 {
				b[0] = sum.Seal(string(turned[:124]))
			}
		}
		b = b[:x.next(len(b)+1)]
		seq, got, n, e := Decode(b)
		if e != api.OK {
			checkNone(t, "none", b, e)
			continue
		}
		taken++
		if again, e := Encode(seq, got); e != api.OK || n != len(again) || !slices.Equal(again, b[:n]) {
			t.Fatalf("%q: %d, %v, %d", b, seq, got, n)
		}
	}
	if taken == 0 {
		t.Error("nothing was taken")
	}
}
