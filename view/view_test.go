package view

import (
	"math"
	"slices"
	"testing"

	"cartulary/api"
	"cartulary/sum"
)

// source is a source of numbers, always the same ones.
type source uint32

func (x *source) next(n int) int {
	*x = *x*1664525 + 1013904223
	return int(*x>>8) % n
}

// numbersOfNodes are all of them.
var numbersOfNodes = []int{1, 3, 5, 7}

// notNumbersOfNodes are numbers that are none.
var notNumbersOfNodes = []int{math.MinInt, math.MinInt + 1, -7, -5, -3, -2, -1, 0, 2, 4, 6, 8, 9, 11, 1<<32 + 1, 1<<32 + 3, math.MaxInt - 1, math.MaxInt}

// outOfRange are numbers that are no views, and that no node has as many entries as.
var outOfRange = []int{math.MinInt, -api.MaxSeq, -1, api.MaxSeq + 1, api.MaxSeq + 2, math.MaxInt}

// someViews are views at the edges and between.
func someViews() []int {
	l := []int{}
	for i := range 40 {
		l = append(l, i, 1<<20+i, 1<<32-20+i, api.MaxSeq-i)
	}
	return l
}

func TestExample(t *testing.T) {
	checkEnough(t, 5, 3)
	checkPrimary(t, 3, 4, 1)
	checkNext(t, 3, 4, 1, 7)
	checkCommit(t, []int{5, 3, 9}, 5)
	checkBest(t, []Offer{{Normal: 1, Len: 3}, {Normal: 2, Len: 1}}, 1)
}

// 21.1

func checkEnough(t *testing.T, n, want int) {
	t.Helper()
	if m, e := Enough(n); m != want || e != api.OK {
		t.Errorf("Enough(%d): %d, %v; want %d", n, m, e, want)
	}
}

func TestEnough(t *testing.T) {
	for f, n := range numbersOfNodes {
		checkEnough(t, n, f+1)
	}
	for _, n := range notNumbersOfNodes {
		if m, e := Enough(n); m != 0 || e != api.ErrArg {
			t.Errorf("Enough(%d): %d, %v", n, m, e)
		}
	}
}

func checkPrimary(t *testing.T, n, view, want int) {
	t.Helper()
	if p, e := Primary(n, view); p != want || e != api.OK {
		t.Errorf("Primary(%d, %d): %d, %v; want %d", n, view, p, e, want)
	}
}

func notPrimary(t *testing.T, n, view int) {
	t.Helper()
	if p, e := Primary(n, view); p != 0 || e != api.ErrArg {
		t.Errorf("Primary(%d, %d): %d, %v", n, view, p, e)
	}
}

func TestPrimary(t *testing.T) {
	for _, n := range numbersOfNodes {
		want := 0
		for v := range 100 {
			checkPrimary(t, n, v, want)
			if want++; want == n {
				want = 0
			}
		}
		for _, v := range outOfRange {
			notPrimary(t, n, v)
		}
	}
	// 2^40 = 1 mod 3 and 5, and 2 mod 7.
	for i, want := range []int{0, 1, 1, 2} {
		checkPrimary(t, numbersOfNodes[i], api.MaxSeq, want)
	}
	for _, n := range notNumbersOfNodes {
		for _, v := range slices.Concat([]int{0, 4, api.MaxSeq}, outOfRange) {
			notPrimary(t, n, v)
		}
	}
}

func checkNext(t *testing.T, n, view, node, want int) {
	t.Helper()
	if v, e := Next(n, view, node); v != want || e != api.OK {
		t.Errorf("Next(%d, %d, %d): %d, %v; want %d", n, view, node, v, e, want)
	}
}

func noNext(t *testing.T, n, view, node int, want api.Errno) {
	t.Helper()
	if v, e := Next(n, view, node); v != 0 || e != want {
		t.Errorf("Next(%d, %d, %d): %d, %v; want %v", n, view, node, v, e, want)
	}
}

// Each view behind one is looked at in turn, up to the last one that may be.
func TestNext(t *testing.T) {
	none := 0
	for _, n := range numbersOfNodes {
		for _, view := range someViews() {
			for node := range n {
				want := view + 1
				for want <= api.MaxSeq && want%n != node {
					want++
				}
				if want > api.MaxSeq {
					none++
					noNext(t, n, view, node, api.ErrNone)
					continue
				}
				checkNext(t, n, view, node, want)
			}
		}
	}
	// Behind the last view no node has a turn, one view ahead of it one node has, and so on: 1 + .. + n have none.
	if want := 1 + 6 + 15 + 28; none != want {
		t.Errorf("%d have no next view; want %d", none, want)
	}
}

func TestNextWrong(t *testing.T) {
	for _, n := range numbersOfNodes {
		for _, node := range []int{math.MinInt, -n, -1, n, n + 1, 2 * n, 1 << 32, math.MaxInt} {
			for _, view := range []int{0, 4, api.MaxSeq} {
				noNext(t, n, view, node, api.ErrArg)
			}
		}
		for _, view := range outOfRange {
			for _, node := range []int{-1, 0, n - 1, n} {
				noNext(t, n, view, node, api.ErrArg)
			}
		}
	}
	for _, n := range notNumbersOfNodes {
		for _, view := range []int{-1, 0, api.MaxSeq, api.MaxSeq + 1} {
			for _, node := range []int{-1, 0, 1} {
				noNext(t, n, view, node, api.ErrArg)
			}
		}
	}
}

func checkCommit(t *testing.T, acks []int, want int) {
	t.Helper()
	before := slices.Clone(acks)
	if n, e := Commit(acks); n != want || e != api.OK {
		t.Errorf("Commit(%v): %d, %v; want %d", acks, n, e, want)
	}
	if !slices.Equal(acks, before) {
		t.Fatalf("Commit(%v) made it %v", before, acks)
	}
}

func notCommit(t *testing.T, acks []int) {
	t.Helper()
	before := slices.Clone(acks)
	if n, e := Commit(acks); n != 0 || e != api.ErrArg {
		t.Errorf("Commit(%v): %d, %v", acks, n, e)
	}
	if !slices.Equal(acks, before) {
		t.Fatalf("Commit(%v) made it %v", before, acks)
	}
}

// have is how many nodes have that many entries.
func have(acks []int, n int) int {
	count := 0
	for _, a := range acks {
		if a >= n {
			count++
		}
	}
	return count
}

// lists calls with each list of so many of some numbers.
func lists(n int, of []int, call func([]int)) {
	if n == 0 {
		call(nil)
		return
	}
	lists(n-1, of, func(l []int) {
		for _, x := range of {
			call(append(slices.Clone(l), x))
		}
	})
}

// 21.1, 21.3: of all lists of some numbers; what is told enough have, and no number above it.
func TestCommit(t *testing.T) {
	for n, of := range map[int][]int{1: {0, 1, 7, api.MaxSeq - 1, api.MaxSeq}, 3: {0, 1, 2, 5, 9, api.MaxSeq}, 5: {0, 1, 2, 4, api.MaxSeq}, 7: {0, 2, 3, api.MaxSeq}} {
		enough := n/2 + 1
		lists(n, of, func(acks []int) {
			want := 0
			for _, x := range of {
				if have(acks, x) >= enough {
					want = x
				}
			}
			checkCommit(t, acks, want)
			got, _ := Commit(acks)
			if have(acks, got) < enough || have(acks, got+1) >= enough {
				t.Fatalf("Commit(%v): %d: %d have it, %d have one more", acks, got, have(acks, got), have(acks, got+1))
			}
		})
	}
}

func TestCommitWrong(t *testing.T) {
	notCommit(t, nil)
	notCommit(t, []int{})
	for _, n := range []int{2, 4, 6, 8, 9, 15, 257} {
		notCommit(t, make([]int, n))
	}
	for _, n := range numbersOfNodes {
		for _, x := range outOfRange {
			for at := range n {
				acks := slices.Repeat([]int{5}, n)
				acks[at] = x
				notCommit(t, acks)
			}
			notCommit(t, slices.Repeat([]int{x}, n))
			notCommit(t, slices.Repeat([]int{x}, n+1))
		}
	}
}

// What stands behind a list in its memory is neither counted nor changed.
func TestCommitRoom(t *testing.T) {
	room := []int{9, 1, 5, 8, 2, 7, 3, 6}
	checkCommit(t, room[:1], 9)
	checkCommit(t, room[:3], 5)
	checkCommit(t, room[:5], 5)
	checkCommit(t, room[:7], 5)
	if !slices.Equal(room, []int{9, 1, 5, 8, 2, 7, 3, 6}) {
		t.Error(room)
	}
}

// 21.2

func checkBest(t *testing.T, l []Offer, want int) {
	t.Helper()
	before := slices.Clone(l)
	if at, e := Best(l); at != want || e != api.OK {
		t.Errorf("Best(%v): %d, %v; want %d", l, at, e, want)
	}
	if !slices.Equal(l, before) {
		t.Fatalf("Best(%v) made it %v", before, l)
	}
}

// beaten tells whether one of some offers is better, by the document's words.
func beaten(o Offer, l []Offer) bool {
	for _, x := range l {
		if x.Normal > o.Normal || x.Normal == o.Normal && x.Len > o.Len {
			return true
		}
	}
	return false
}

func TestBest(t *testing.T) {
	for _, l := range [][]Offer{nil, {}} {
		if at, e := Best(l); at != 0 || e != api.ErrNone {
			t.Errorf("Best of none: %d, %v", at, e)
		}
	}
	checkBest(t, []Offer{{}}, 0)
	checkBest(t, []Offer{{}, {}, {}}, 0)
	checkBest(t, []Offer{{Normal: 1, Len: 9}, {Normal: 2, Len: 0}, {Normal: 2, Len: 0}}, 1)
	checkBest(t, []Offer{{Normal: 2, Len: 3}, {Normal: 2, Len: 4}, {Normal: 1, Len: 9}, {Normal: 2, Len: 4}}, 1)
	// A node's number makes no offer better.
	checkBest(t, []Offer{{Node: 1, Normal: 2, Len: 3}, {Node: 6, Normal: 2, Len: 3}, {Node: 0, Normal: 2, Len: 3}}, 0)
	checkBest(t, []Offer{{Node: 9, Normal: 2, Len: 3}, {Node: 0, Normal: 2, Len: 4}}, 1)
	// Numbers whose difference is none.
	checkBest(t, []Offer{{Normal: math.MinInt}, {Normal: math.MaxInt}, {Normal: 0}}, 1)
	checkBest(t, []Offer{{Normal: math.MaxInt}, {Normal: math.MinInt}}, 0)
	checkBest(t, []Offer{{Len: math.MinInt}, {Len: math.MaxInt}, {Len: 0}}, 1)
	checkBest(t, []Offer{{Len: math.MaxInt}, {Len: math.MinInt}}, 0)
	checkBest(t, []Offer{{Normal: -3}, {Normal: -2, Len: -1}, {Normal: -2}}, 2)
}

func TestBestRun(t *testing.T) {
	r := source(21)
	for range 3000 {
		l := []Offer{}
		kinds := 1 + r.next(5)
		for range 1 + r.next(12) {
			l = append(l, Offer{Node: r.next(7), Normal: r.next(kinds), Len: r.next(kinds)})
		}
		checkBest(t, l, slices.IndexFunc(l, func(o Offer) bool { return !beaten(o, l) }))
	}
}

func TestBestOfMany(t *testing.T) {
	l := make([]Offer, 200000)
	for i := range l {
		l[i] = Offer{Normal: i / 1000, Len: i % 1000 / 10}
	}
	checkBest(t, l, len(l)-10)
	slices.Reverse(l)
	checkBest(t, l, 0)
}

// textOf is the text of a block of Meta, byte by byte.
func textOf(mark string, view, normal uint64) string {
	out := []byte(mark)
	for _, n := range []uint64{view, normal} {
		for range 8 {
			out = append(out, byte(n%256))
			n /= 256
		}
	}
	return string(out)
}

func blockOf(t *testing.T, text string) string {
	t.Helper()
	b, e := sum.Block(text)
	if e != api.OK {
		t.Fatalf("Block(%q): %v", text, e)
	}
	return b
}

func rightMetas() []Meta {
	l := []Meta{{258, 3}, {1 << 39, 1 << 38}, {api.MaxSeq - 1, api.MaxSeq - 1}}
	for _, v := range []int{0, 1, 2, 255, 256, 257, 65536, 1 << 32, 0x0102030405, api.MaxSeq - 1, api.MaxSeq} {
		l = append(l, Meta{v, 0}, Meta{v, v / 2}, Meta{v, max(v-1, 0)}, Meta{v, v})
	}
	return l
}

func wrongMetas() []Meta {
	l := []Meta{{0, 1}, {2, 3}, {api.MaxSeq, api.MaxSeq + 1}, {api.MaxSeq + 1, api.MaxSeq + 1}, {5, math.MaxInt}, {-1, -1}, {-1, -2}, {-2, -1}}
	for _, x := range outOfRange {
		l = append(l, Meta{x, 0}, Meta{x, x}, Meta{5, x}, Meta{api.MaxSeq, x})
	}
	return l
}

func TestEncode(t *testing.T) {
	b, e := Encode(Meta{View: 258, Normal: 3})
	if e != api.OK || len(b) != api.BlockSize || b[:21] != "\x11\x00V\x02\x01\x00\x00\x00\x00\x00\x00\x03\x00\x00\x00\x00\x00\x00\x00\x00\x00" {
		t.Errorf("Encode: %q, %v", b, e)
	}
	for _, m := range rightMetas() {
		if b, e := Encode(m); b != blockOf(t, textOf("V", uint64(m.View), uint64(m.Normal))) || e != api.OK {
			t.Errorf("Encode(%v): %q, %v", m, b, e)
		}
	}
	for _, m := range wrongMetas() {
		if b, e := Encode(m); b != "" || e != api.ErrArg {
			t.Errorf("Encode(%v): %q, %v", m, b, e)
		}
	}
}

func notDecoded(t *testing.T, b string) {
	t.Helper()
	if m, e := Decode(b); m != (Meta{}) || e != api.ErrForm {
		t.Errorf("Decode(%q): %v, %v", b, m, e)
	}
}

func TestDecode(t *testing.T) {
	for _, m := range rightMetas() {
		b := blockOf(t, textOf("V", uint64(m.View), uint64(m.Normal)))
		if got, e := Decode(b); got != m || e != api.OK {
			t.Errorf("Decode of %v: %v, %v", m, got, e)
		}
	}
	// Numbers that are no Meta, also those of which the highest bit is set.
	for _, m := range wrongMetas() {
		notDecoded(t, blockOf(t, textOf("V", uint64(m.View), uint64(m.Normal))))
	}
	notDecoded(t, blockOf(t, textOf("V", 1<<63+5, 3)))
	notDecoded(t, blockOf(t, textOf("V", 5, 1<<63+3)))
}

// Blocks of other texts: of another mark, of fewer bytes and of more.
func TestDecodeOtherTexts(t *testing.T) {
	right := textOf("V", 258, 3)
	for c := range 256 {
		if c != 'V' {
			notDecoded(t, blockOf(t, string([]byte{byte(c)})+right[1:]))
		}
	}
	for n := range right {
		notDecoded(t, blockOf(t, right[:n]))
		notDecoded(t, blockOf(t, right[n+1:]))
	}
	for _, more := range []string{"\x00", "V", "more", right, string(make([]byte, api.BlockSize-6-len(right)))} {
		notDecoded(t, blockOf(t, right+more))
	}
	notDecoded(t, blockOf(t, textOf("VV", 258, 3)))
	notDecoded(t, blockOf(t, textOf("", 258, 3)))
	notDecoded(t, blockOf(t, textOf("", 258, 3)+"V"))
}

// What is no block at all, and blocks of which bits are turned.
func TestDecodeNoBlock(t *testing.T) {
	b := blockOf(t, textOf("V", 258, 3))
	notDecoded(t, textOf("V", 258, 3))
	for n := range b {
		notDecoded(t, b[:n])
	}
	notDecoded(t, b+"\x00")
	notDecoded(t, b+b)
	notDecoded(t, string(make([]byte, api.BlockSize)))
	for i := range 8 * len(b) {
		turned := []byte(b)
		turned[i/8] ^= 1 << (i % 8)
		notDecoded(t, string(turned))
	}
	// A right sum over what is the block of no text.
	body := []byte(b[:api.BlockSize-4])
	body[100] = 1
	notDecoded(t, sum.Seal(string(body)))
	body[100], body[0] = 0, 250
	notDecoded(t, sum.Seal(string(body)))
}

func TestDecodeGarbage(t *testing.T) {
	r := source(22)
	for range 3000 {
		text := make([]byte, r.next(40))
		for i := range text {
			text[i] = byte(r.next(256) * r.next(2))
		}
		b := blockOf(t, "V"+string(text))
		m, e := Decode(b)
		if e == api.ErrForm && m == (Meta{}) {
			continue
		}
		if again, f := Encode(m); e != api.OK || f != api.OK || again != b {
			t.Fatalf("Decode(%q): %v, %v", b, m, e)
		}
	}
}

// 21.3

// All sets of enough nodes have a node in common with each other, and sets of one node less need not.
func TestEnoughMeet(t *testing.T) {
	for _, n := range numbersOfNodes {
		enough, _ := Enough(n)
		apart := false
		for a := range 1 << n {
			for b := range 1 << n {
				if members(a) >= enough && members(b) >= enough && a&b == 0 {
					t.Errorf("of %d: %b and %b", n, a, b)
				}
				apart = apart || members(a) == enough-1 && members(b) == enough-1 && a&b == 0
			}
		}
		if !apart {
			t.Errorf("of %d: fewer than %d would be enough", n, enough)
		}
	}
}

func members(set int) int {
	count := 0
	for ; set > 0; set /= 2 {
		count += set % 2
	}
	return count
}

// More entries at any node never make less committed.
func TestCommitRises(t *testing.T) {
	r := source(23)
	for range 2000 {
		acks := make([]int, numbersOfNodes[r.next(4)])
		before := 0
		for range 40 {
			acks[r.next(len(acks))] += r.next(4)
			got, e := Commit(acks)
			if got < before || e != api.OK {
				t.Fatalf("Commit(%v): %d, %v behind %d", acks, got, e, before)
			}
			before = got
		}
	}
}

// 21.4

func TestTurns(t *testing.T) {
	for _, n := range numbersOfNodes {
		for _, from := range someViews() {
			if from > api.MaxSeq-n {
				continue
			}
			seen := 0
			for v := from; v < from+n; v++ {
				p, e := Primary(n, v)
				if e != api.OK || p < 0 || p >= n {
					t.Fatalf("Primary(%d, %d): %d, %v", n, v, p, e)
				}
				seen |= 1 << p
			}
			if seen != 1<<n-1 {
				t.Errorf("of %d nodes from view %d on: %b", n, from, seen)
			}
			for node := range n {
				v, e := Next(n, from, node)
				p, _ := Primary(n, v)
				if v <= from || v > from+n || p != node || e != api.OK {
					t.Errorf("Next(%d, %d, %d): %d, %v", n, from, node, v, e)
				}
			}
		}
	}
}
