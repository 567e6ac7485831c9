package mend

import (
	"maps"
	"math"
	"reflect"
	"slices"
	"strings"
	"testing"

	"cartulary/api"
	"cartulary/dev"
	"cartulary/sum"
	"cartulary/txn"
)

// small is the least shape: its journal has 7 places; blocks 9 to 15 may be changed.
var small = api.Shape{Blocks: 16, Journal: 8, Inodes: 1}

const (
	firstFree = 9
	freeCount = 7
	places    = 7
)

// of is a block of one letter.
func of(letter byte) string {
	return strings.Repeat(string([]byte{letter}), api.BlockSize)
}

// run are so many changes, of blocks from first on.
func run(first, count int, letter byte) []api.Change {
	l := []api.Change{}
	for i := range count {
		l = append(l, api.Change{Block: first + i, Data: of(letter + byte(i))})
	}
	return l
}

// at are changes of some blocks to one letter.
func at(letter byte, blocks ...int) []api.Change {
	l := []api.Change{}
	for _, b := range blocks {
		l = append(l, api.Change{Block: b, Data: of(letter)})
	}
	return l
}

// source is a source of numbers, always the same ones.
type source uint32

func (x *source) next(n int) int {
	*x = *x*1664525 + 1013904223
	return int(*x>>8) % n
}

func blockOf(t *testing.T, text string) string {
	t.Helper()
	b, e := sum.Block(text)
	if e != api.OK {
		t.Fatalf("Block(%q): %v", text, e)
	}
	return b
}

// superOf is a superblock, byte by byte.
func superOf(t *testing.T, s api.Shape) string {
	t.Helper()
	b := []byte("cart")
	for _, n := range []int{s.Blocks, s.Journal, s.Inodes} {
		b = append(b, byte(n), byte(n>>8))
	}
	return blockOf(t, string(b))
}

// headerOf is a journal's header, byte by byte.
func headerOf(t *testing.T, tail int, first, end uint64) string {
	t.Helper()
	b := []byte{'H', byte(tail), byte(tail >> 8)}
	for _, n := range []uint64{first, end} {
		for i := range 8 {
			b = append(b, byte(n>>(8*i)))
		}
	}
	return blockOf(t, string(b))
}

// firstAndEnd are the second and the third number of a header.
func firstAndEnd(t *testing.T, header string) (int, int) {
	t.Helper()
	text, e := sum.Unblock(header)
	if e != api.OK || len(text) != 19 {
		t.Fatalf("no header: %q, %v", text, e)
	}
	numbers := [2]int{}
	for i := range 16 {
		numbers[i/8] |= int(text[3+i]) << (8 * (i % 8))
	}
	return numbers[0], numbers[1]
}

func blocksOf(t *testing.T, seq int, l []api.Change) []string {
	t.Helper()
	b, e := txn.Encode(seq, l)
	if e != api.OK {
		t.Fatalf("Encode(%d): %v", seq, e)
	}
	return b
}

func write(t *testing.T, d *dev.Dev, at int, data string) {
	t.Helper()
	if e := d.Write(at, data); e != api.OK {
		t.Fatalf("Write(%d): %v", at, e)
	}
}

// deviceOf is a device with some blocks, flushed.
func deviceOf(t *testing.T, blocks []string) *dev.Dev {
	t.Helper()
	d, e := dev.New(len(blocks))
	if e != api.OK {
		t.Fatal(e)
	}
	for i, b := range blocks {
		write(t, d, i, b)
	}
	d.Flush()
	return d
}

// lasting are a device's blocks as they last; seenOf, as they are seen.
func lasting(d *dev.Dev) []string {
	l := []string{}
	for i := range d.Blocks() {
		b, _ := d.Lasts(i)
		l = append(l, b)
	}
	return l
}

func seenOf(d *dev.Dev) []string {
	l := []string{}
	for i := range d.Blocks() {
		b, _ := d.Read(i)
		l = append(l, b)
	}
	return l
}

func mustFormat(t *testing.T, s api.Shape, blocks []api.Change) *dev.Dev {
	t.Helper()
	d, e := Format(s, blocks)
	if e != api.OK {
		t.Fatalf("Format(%v): %v", s, e)
	}
	return d
}

func mustOpen(t *testing.T, d *dev.Dev) *Store {
	t.Helper()
	s, e := Open(d)
	if s == nil || e != api.OK {
		t.Fatalf("Open: %v", e)
	}
	return s
}

func mustAll(t *testing.T, s *Store, l []api.Change) {
	t.Helper()
	if e := s.All(l); e != api.OK || s.Busy() {
		t.Fatalf("All: %v, busy %v", e, s.Busy())
	}
}

// finish does all acts: how many they were.
func finish(t *testing.T, s *Store) int {
	t.Helper()
	n := 0
	for s.Busy() {
		done, e := s.Step()
		if e != api.OK || done == s.Busy() {
			t.Fatalf("Step: %v, %v, busy %v", done, e, s.Busy())
		}
		n++
	}
	return n
}

func checkBlock(t *testing.T, s *Store, at int, want string) {
	t.Helper()
	if b, e := s.Read(at); b != want || e != api.OK {
		t.Errorf("Read(%d): %q, %v; want %q", at, b, e, want)
	}
}

// content are the blocks behind the journal's region as a store tells them.
func content(t *testing.T, s *Store) []string {
	t.Helper()
	l := []string{}
	for i := 1 + s.Shape().Journal; i < s.Shape().Blocks; i++ {
		b, e := s.Read(i)
		if e != api.OK {
			t.Fatalf("Read(%d): %v", i, e)
		}
		l = append(l, b)
	}
	return l
}

// changed are blocks behind the journal's region of a shape behind some changes, one list behind the other.
func changed(s api.Shape, lists ...[]api.Change) []string {
	first := 1 + s.Journal
	l := []string{}
	for range s.Blocks - first {
		l = append(l, of(0))
	}
	for _, changes := range lists {
		for _, c := range changes {
			l[c.Block-first] = c.Data
		}
	}
	return l
}

// 9.1

func TestFormat(t *testing.T) {
	shapes := []api.Shape{
		small,
		{Blocks: 64, Journal: 16, Inodes: 10},
		{Blocks: 1024, Journal: 256, Inodes: 64},
		{Blocks: 1024, Journal: 8, Inodes: 1},
	}
	for _, s := range shapes {
		free := 1 + s.Journal
		lists := [][]api.Change{nil, {}, at('a', free), at('b', s.Blocks-1), at('c', free, free+3, s.Blocks-1), run(free, s.Blocks-free, 7)}
		for _, l := range lists {
			d := mustFormat(t, s, l)
			want := []string{superOf(t, s), headerOf(t, 0, 1, 1)}
			for range s.Journal - 1 {
				want = append(want, of(0))
			}
			want = append(want, changed(s, l)...)
			if d.Blocks() != s.Blocks || d.Waits() != 0 || !slices.Equal(lasting(d), want) || !slices.Equal(seenOf(d), want) {
				t.Errorf("Format(%v) with %d blocks is another device", s, len(l))
			}
		}
	}
}

func TestFormatWrongShape(t *testing.T) {
	wrong := []api.Shape{
		{}, {Blocks: 15, Journal: 8, Inodes: 1}, {Blocks: 1025, Journal: 8, Inodes: 1}, {Blocks: 16, Journal: 7, Inodes: 1},
		{Blocks: 1024, Journal: 257, Inodes: 1}, {Blocks: 16, Journal: 8, Inodes: 0}, {Blocks: 1024, Journal: 8, Inodes: 65},
		{Blocks: 16, Journal: 10, Inodes: 1}, {Blocks: math.MinInt, Journal: math.MinInt, Inodes: math.MinInt},
		{Blocks: math.MaxInt, Journal: math.MaxInt, Inodes: math.MaxInt}, {Blocks: -16, Journal: -8, Inodes: -1},
	}
	for _, s := range wrong {
		// The shape is told ahead of the blocks.
		for _, l := range [][]api.Change{nil, at('a', 12), at('a', 0), at('a', 13, 12), {{Block: 12, Data: "x"}}} {
			if d, e := Format(s, l); d != nil || e != api.ErrShape {
				t.Errorf("Format(%v, %d blocks): %v", s, len(l), e)
			}
		}
	}
}

// wrongChanges are changes that are not right by themselves.
func wrongChanges() [][]api.Change {
	return [][]api.Change{
		at('a', -1), at('a', math.MinInt), at('a', api.MaxBlocks), at('a', math.MaxInt),
		at('a', 12, 12), at('a', 13, 12), at('a', 11, 12, 12), at('a', 12, 13, 11),
		{{Block: 12}}, {{Block: 12, Data: "x"}}, {{Block: 12, Data: of('a')[1:]}}, {{Block: 12, Data: of('a') + "a"}}, {{Block: 12, Data: of('a') + of('a')}},
		append(at('a', 11, 12), api.Change{Block: 13, Data: "x"}), append([]api.Change{{Block: 10}}, at('a', 11, 12)...),
	}
}

// strangers are changes that are right, but of blocks that are not free in the small shape.
func strangers() [][]api.Change {
	return [][]api.Change{
		at('a', 0), at('a', 1), at('a', 5), at('a', 8), at('a', 16), at('a', 17), at('a', api.MaxBlocks-1),
		at('a', 0, 12), at('a', 8, 9), at('a', 15, 16), at('a', 3, 12, 15), at('a', 9, 12, 1023),
	}
}

func TestFormatWrongBlocks(t *testing.T) {
	for _, l := range append(wrongChanges(), strangers()...) {
		if d, e := Format(small, l); d != nil || e != api.ErrTxn {
			t.Errorf("Format(%v): %v", l, e)
		}
	}
	// Of more than a transaction has, each one is looked at too.
	s := api.Shape{Blocks: 1024, Journal: 8, Inodes: 1}
	for _, i := range []int{0, 1, 46, 47, 48, 49, 50, 95, 96, 97, 500, 999} {
		l := run(firstFree, 1000, 3)
		l[i].Data = "x"
		if d, e := Format(s, l); d != nil || e != api.ErrTxn {
			t.Errorf("Format with a short block at %d: %v", i, e)
		}
		l = run(firstFree, 1000, 3)
		l[i].Block = l[max(i-1, 0)].Block
		if i > 0 {
			if d, e := Format(s, l); d != nil || e != api.ErrTxn {
				t.Errorf("Format with a block twice at %d: %v", i, e)
			}
		}
	}
}

// 9.2

func TestOpenNew(t *testing.T) {
	for _, s := range []api.Shape{small, {Blocks: 64, Journal: 16, Inodes: 10}, {Blocks: 1024, Journal: 256, Inodes: 64}} {
		l := at('a', 1+s.Journal, s.Blocks-1)
		d := mustFormat(t, s, l)
		x := mustOpen(t, d)
		if x.Shape() != s || x.Busy() || x.Count() != 0 {
			t.Errorf("Open(%v): %v, %v, %d", s, x.Shape(), x.Busy(), x.Count())
		}
		if !slices.Equal(content(t, x), changed(s, l)) {
			t.Errorf("Open(%v): other blocks", s)
		}
		checkBlock(t, x, 0, superOf(t, s))
		checkBlock(t, x, 1, headerOf(t, 0, 1, 1))
		checkBlock(t, x, s.Journal, of(0))
		for _, at := range []int{-1, s.Blocks, s.Blocks + 1, math.MinInt, math.MaxInt} {
			if b, e := x.Read(at); b != "" || e != api.ErrNone {
				t.Errorf("Read(%d): %q, %v", at, b, e)
			}
		}
	}
}

func TestOpenWrongShape(t *testing.T) {
	good := lasting(mustFormat(t, small, nil))
	turned := []byte(good[0])
	turned[5] ^= 1
	larger := append(slices.Clone(good), of(0))
	cases := [][]string{{of(0)}, slices.Repeat([]string{of(0)}, 16), good[:15], larger, larger[:1]}
	for _, super := range []string{of(0), of(255), string(turned), blockOf(t, "cart"), headerOf(t, 0, 1, 1), superOf(t, api.Shape{Blocks: 17, Journal: 8, Inodes: 1}), superOf(t, api.Shape{Blocks: 16, Journal: 7, Inodes: 1})} {
		c := slices.Clone(good)
		c[0] = super
		// Whatever the journal is, the shape is told first.
		other := slices.Clone(c)
		other[1] = of(1)
		cases = append(cases, c, other)
	}
	for i, c := range cases {
		if s, e := Open(deviceOf(t, c)); s != nil || e != api.ErrShape {
			t.Errorf("case %d: Open: %v", i, e)
		}
	}
	for _, d := range []*dev.Dev{nil, {}} {
		if s, e := Open(d); s != nil || e != api.ErrShape {
			t.Errorf("Open of no device: %v", e)
		}
	}
}

// logged are the small shape's blocks with transactions in its journal, from tail on, of numbers from first on.
func logged(t *testing.T, tail, first int, lists ...[]api.Change) []string {
	t.Helper()
	blocks := lasting(mustFormat(t, small, nil))
	blocks[1] = headerOf(t, tail, uint64(first), uint64(first+len(lists)))
	p := tail
	for i, l := range lists {
		for _, b := range blocksOf(t, first+i, l) {
			blocks[2+p%places] = b
			p++
		}
	}
	return blocks
}

func TestOpenWrongLog(t *testing.T) {
	good := logged(t, 5, 3, at('a', 9), at('b', 10, 11))
	mustOpen(t, deviceOf(t, good))
	for at := 1; at <= places+1; at++ {
		// Places 5, 6 have the first transaction; 0, 1, 2 the second.
		used := at != 1+1+3 && at != 1+1+4
		c := slices.Clone(good)
		turned := []byte(c[at])
		turned[0] ^= 4
		c[at] = string(turned)
		want := api.OK
		if used {
			want = api.ErrLog
		}
		if s, e := Open(deviceOf(t, c)); e != want || (s == nil) == (e == api.OK) {
			t.Errorf("block %d turned: %v", at, e)
		}
	}
	// A transaction that may not be is told behind a journal that is none.
	c := logged(t, 0, 1, at('a', 0), at('b', 9))
	c[2+3] = of('x')
	if s, e := Open(deviceOf(t, c)); s != nil || e != api.ErrLog {
		t.Errorf("Open: %v", e)
	}
	for _, header := range []string{headerOf(t, 7, 1, 1), headerOf(t, 0, 0, 0), headerOf(t, 0, 1<<40+1, 1<<40+1), headerOf(t, 0, 2, 1), headerOf(t, 0, 1, 2), of(0)} {
		c := lasting(mustFormat(t, small, nil))
		c[1] = header
		if s, e := Open(deviceOf(t, c)); s != nil || e != api.ErrLog {
			t.Errorf("Open: %v", e)
		}
	}
}

func TestOpenStrangers(t *testing.T) {
	for _, l := range strangers() {
		for _, lists := range [][][]api.Change{{l}, {at('b', 9), l}, {l, at('b', 9)}} {
			d := deviceOf(t, logged(t, 3, 8, lists...))
			if s, e := Open(d); s != nil || e != api.ErrTxn {
				t.Errorf("Open of a transaction of %d blocks: %v", len(l), e)
			}
			if d.Waits() != 0 {
				t.Error("Open has written")
			}
		}
	}
	for _, l := range [][]api.Change{at('a', 9), at('a', 15), run(9, 6, 'a'), nil} {
		mustOpen(t, deviceOf(t, logged(t, 3, 8, l)))
	}
}

func TestOpenMends(t *testing.T) {
	lists := [][]api.Change{at('a', 9, 15), nil, at('b', 12, 15)}
	blocks := logged(t, 6, 41, lists...)
	blocks[10] = of('k')
	d := deviceOf(t, blocks)
	s := mustOpen(t, d)
	if !s.Busy() || s.Count() != 43 || d.Waits() != 0 || !slices.Equal(seenOf(d), blocks) {
		t.Fatalf("Open: busy %v, count %d, waits %d", s.Busy(), s.Count(), d.Waits())
	}
	want := changed(small, at('k', 10), lists[0], lists[2])
	if !slices.Equal(content(t, s), want) {
		t.Error("the blocks are not as the journal's transactions have them")
	}
	// Blocks 9, 12, 15, a flush, the header, a flush.
	for i, waits := range []int{1, 2, 3, 0, 1, 0} {
		done, e := s.Step()
		if done != (i == 5) || e != api.OK || d.Waits() != waits || s.Count() != 43 || !slices.Equal(content(t, s), want) {
			t.Errorf("step %d: %v, %v, %d wait", i, done, e, d.Waits())
		}
	}
	if l := lasting(d); !slices.Equal(l[firstFree:], want) || l[1] != headerOf(t, 6, 44, 44) {
		t.Error("it was not mended")
	}
	s = mustOpen(t, d)
	if s.Busy() || s.Count() != 43 || !slices.Equal(content(t, s), want) {
		t.Error("what was mended is another store")
	}
}

func TestOpenMendsEmpty(t *testing.T) {
	d := deviceOf(t, logged(t, 0, 1, nil, nil))
	s := mustOpen(t, d)
	if n := finish(t, s); n != 3 || s.Count() != 2 {
		t.Errorf("%d steps, count %d", n, s.Count())
	}
	if b, _ := d.Lasts(1); b != headerOf(t, 2, 3, 3) {
		t.Error("the transactions are still there")
	}
}

// What is seen counts, also where it was not flushed.
func TestOpenSeen(t *testing.T) {
	d := mustFormat(t, small, nil)
	s := mustOpen(t, d)
	if e := s.Commit(at('a', 12)); e != api.OK {
		t.Fatal(e)
	}
	for range 4 {
		s.Step()
	}
	other := mustOpen(t, d)
	if !other.Busy() || other.Count() != 1 || s.Count() != 0 {
		t.Errorf("busy %v, count %d, %d", other.Busy(), other.Count(), s.Count())
	}
	checkBlock(t, other, 12, of('a'))
	checkBlock(t, s, 12, of(0))
}

// 9.3

func TestExample(t *testing.T) {
	d := mustFormat(t, small, nil)
	s := mustOpen(t, d)
	if e := s.Commit(at('a', 12)); e != api.OK || !s.Busy() {
		t.Fatalf("Commit: %v, busy %v", e, s.Busy())
	}
	for i, waits := range []int{1, 2, 0, 1, 0} {
		checkBlock(t, s, 12, of(0))
		if !s.Busy() || s.Count() != 0 {
			t.Errorf("ahead of step %d: busy %v, count %d", i, s.Busy(), s.Count())
		}
		done, e := s.Step()
		if done != (i == 4) || e != api.OK || d.Waits() != waits {
			t.Errorf("step %d: %v, %v, %d wait", i, done, e, d.Waits())
		}
	}
	checkBlock(t, s, 12, of('a'))
	if b, _ := d.Read(12); b != of(0) {
		t.Error("it was laid by its commit")
	}
	if s.Busy() || s.Count() != 1 {
		t.Errorf("busy %v, count %d", s.Busy(), s.Count())
	}
	if done, e := s.Step(); done || e != api.ErrState || d.Waits() != 0 {
		t.Errorf("Step of one that is not busy: %v, %v", done, e)
	}
}

func TestCommitWrong(t *testing.T) {
	d := mustFormat(t, small, at('k', 12))
	s := mustOpen(t, d)
	wrong := append(wrongChanges(), strangers()...)
	wrong = append(wrong, run(firstFree, api.MaxChange+1, 'a'))
	check := func(when string) {
		t.Helper()
		before, waits, count, busy := seenOf(d), d.Waits(), s.Count(), s.Busy()
		for _, l := range wrong {
			if e := s.Commit(l); e != api.ErrTxn {
				t.Errorf("%s: Commit(%d changes): %v", when, len(l), e)
			}
			if e := s.All(l); e != api.ErrTxn {
				t.Errorf("%s: All(%d changes): %v", when, len(l), e)
			}
		}
		if !slices.Equal(seenOf(d), before) || d.Waits() != waits || s.Count() != count || s.Busy() != busy {
			t.Errorf("%s: a refused commit has changed something", when)
		}
	}
	check("idle")
	if e := s.Commit(at('a', 12)); e != api.OK {
		t.Fatal(e)
	}
	check("busy")
	full := run(firstFree, freeCount, 'a')
	for i := range 5 {
		for _, l := range [][]api.Change{nil, at('b', 12), full} {
			if s.Commit(l) != api.ErrState || s.All(l) != api.ErrState || s.Checkpoint() != api.ErrState {
				t.Errorf("ahead of step %d it takes more", i)
			}
		}
		s.Step()
	}
	if e := s.Commit(full); e != api.ErrFull || s.Busy() {
		t.Errorf("Commit of %d changes: %v", len(full), e)
	}
	if e := s.All(full); e != api.ErrFull || s.Busy() {
		t.Errorf("All of %d changes: %v", len(full), e)
	}
	check("behind it")
	checkBlock(t, s, 12, of('a'))
}

// A transaction has at most as many changes as the ring has places but one, and MaxChange.
func TestCommitFull(t *testing.T) {
	for _, journal := range []int{8, 9, 20, 48, 49, 50, 51, 256} {
		shape := api.Shape{Blocks: 1024, Journal: journal, Inodes: 1}
		for _, n := range []int{0, 1, journal - 3, journal - 2, journal - 1, journal, api.MaxChange - 1, api.MaxChange} {
			if n > api.MaxChange {
				continue
			}
			s := mustOpen(t, mustFormat(t, shape, nil))
			// Whatever is in the ring already is laid first.
			mustAll(t, s, at('z', 1+journal, 1023))
			l := run(1+journal, n, 'a')
			want := api.OK
			if 1+n > journal-1 {
				want = api.ErrFull
			}
			if e := s.All(l); e != want || s.Busy() {
				t.Errorf("journal %d: All of %d changes: %v", journal, n, e)
			}
			lists := [][]api.Change{at('z', 1+journal, 1023)}
			if want == api.OK {
				lists = append(lists, l)
			}
			if !slices.Equal(content(t, s), changed(shape, lists...)) || s.Count() != len(lists) {
				t.Errorf("journal %d, %d changes: other blocks", journal, n)
			}
		}
	}
}

func TestCommitNothing(t *testing.T) {
	d := mustFormat(t, small, at('k', 12))
	s := mustOpen(t, d)
	for i, l := range [][]api.Change{nil, {}} {
		if e := s.Commit(l); e != api.OK || !s.Busy() {
			t.Fatalf("Commit: %v", e)
		}
		if n := finish(t, s); n != 4 || s.Count() != i+1 {
			t.Errorf("%d steps, count %d", n, s.Count())
		}
	}
	if mustOpen(t, d).Count() != 2 {
		t.Error("what changes nothing does not count")
	}
	// They have places in the journal, which a checkpoint frees.
	if e := s.Checkpoint(); e != api.OK || finish(t, s) != 3 {
		t.Errorf("Checkpoint: %v", e)
	}
	if mustOpen(t, d).Busy() {
		t.Error("they are still in the journal")
	}
	for range 3 * places {
		mustAll(t, s, nil)
	}
	checkBlock(t, s, 12, of('k'))
	if s.Count() != 2+3*places {
		t.Errorf("count %d", s.Count())
	}
}

func TestCheckpoint(t *testing.T) {
	d := mustFormat(t, small, at('k', 10))
	s := mustOpen(t, d)
	if e := s.Checkpoint(); e != api.OK || s.Busy() {
		t.Fatalf("Checkpoint of nothing: %v, busy %v", e, s.Busy())
	}
	mustAll(t, s, at('a', 15))
	mustAll(t, s, at('b', 9, 15))
	want := changed(small, at('k', 10), at('b', 9, 15))
	if e := s.Checkpoint(); e != api.OK || !s.Busy() {
		t.Fatalf("Checkpoint: %v, busy %v", e, s.Busy())
	}
	s.Step()
	if b, _ := d.Read(9); b != of('b') || d.Waits() != 1 {
		t.Error("the least block is not the first one")
	}
	s.Step()
	if b, _ := d.Read(15); b != of('b') || d.Waits() != 2 {
		t.Error("the last content is not written")
	}
	s.Step()
	if b, _ := d.Read(1); b != headerOf(t, 0, 1, 3) || d.Waits() != 0 {
		t.Error("there was no flush, or the header comes too early")
	}
	s.Step()
	if b, _ := d.Read(1); b != headerOf(t, 5, 3, 3) || d.Waits() != 1 {
		t.Error("the header is not written")
	}
	if done, e := s.Step(); !done || e != api.OK || d.Waits() != 0 || s.Busy() {
		t.Errorf("the last step: %v, %v", done, e)
	}
	if !slices.Equal(content(t, s), want) || s.Count() != 2 {
		t.Error("a checkpoint has changed what is read")
	}
	if e := s.Checkpoint(); e != api.OK || s.Busy() {
		t.Errorf("Checkpoint of nothing: %v, busy %v", e, s.Busy())
	}
}

// Of what was laid, only what was committed since is laid again.
func TestCheckpointAgain(t *testing.T) {
	s := mustOpen(t, mustFormat(t, small, nil))
	mustAll(t, s, at('a', 9, 10, 11))
	s.Checkpoint()
	if n := finish(t, s); n != 6 {
		t.Errorf("%d steps", n)
	}
	mustAll(t, s, at('b', 12))
	s.Checkpoint()
	if n := finish(t, s); n != 4 {
		t.Errorf("%d steps", n)
	}
}

// A commit for which there is no room begins with a checkpoint's acts.
func TestCommitLaysFirst(t *testing.T) {
	d := mustFormat(t, small, nil)
	s := mustOpen(t, d)
	mustAll(t, s, at('a', 9, 10, 11))
	mustAll(t, s, at('b', 9, 12))
	// All places are taken.
	if e := s.Commit(at('c', 9)); e != api.OK {
		t.Fatal(e)
	}
	for i, waits := range []int{1, 2, 3, 4, 0, 1, 0, 1, 2, 0, 1, 0} {
		if s.Count() != 2 || !slices.Equal(content(t, s), changed(small, at('a', 9, 10, 11), at('b', 9, 12))) {
			t.Errorf("ahead of step %d: count %d", i, s.Count())
		}
		done, e := s.Step()
		if done != (i == 11) || e != api.OK || d.Waits() != waits {
			t.Errorf("step %d: %v, %v, %d wait", i, done, e, d.Waits())
		}
	}
	if s.Count() != 3 || !slices.Equal(content(t, s), changed(small, at('a', 9, 10, 11), at('b', 12), at('c', 9))) {
		t.Errorf("count %d, or other blocks", s.Count())
	}
	if b, _ := d.Lasts(1); b != headerOf(t, 0, 3, 4) {
		t.Error("the header is another one")
	}
	if b, _ := d.Lasts(9); b != of('b') {
		t.Error("the block was laid otherwise")
	}
}

// Numbers end at MaxSeq.
func TestLastNumber(t *testing.T) {
	blocks := lasting(mustFormat(t, small, nil))
	blocks[1] = headerOf(t, 4, api.MaxSeq, api.MaxSeq)
	d := deviceOf(t, blocks)
	s := mustOpen(t, d)
	if s.Count() != api.MaxSeq-1 {
		t.Errorf("count %d", s.Count())
	}
	mustAll(t, s, at('a', 12))
	for _, l := range [][]api.Change{nil, at('b', 12), run(firstFree, 6, 'c')} {
		if e := s.Commit(l); e != api.ErrFull || s.Busy() {
			t.Errorf("Commit: %v", e)
		}
	}
	if s.Count() != api.MaxSeq || d.Waits() != 0 {
		t.Errorf("count %d, %d wait", s.Count(), d.Waits())
	}
	checkBlock(t, s, 12, of('a'))
	checkBlock(t, mustOpen(t, d), 12, of('a'))
}

// checkNone looks at what a nil store answers, and one that Open did not make too.
func checkNone(t *testing.T, s *Store) {
	t.Helper()
	if s.Shape() != (api.Shape{}) || s.Busy() || s.Count() != 0 {
		t.Errorf("%v, %v, %d", s.Shape(), s.Busy(), s.Count())
	}
	for _, at := range []int{-1, 0, 1, 12, math.MaxInt} {
		if b, e := s.Read(at); b != "" || e != api.ErrNone {
			t.Errorf("Read(%d): %q, %v", at, b, e)
		}
	}
	if done, e := s.Step(); done || e != api.ErrState || s.Checkpoint() != api.ErrState {
		t.Errorf("Step: %v, %v", done, e)
	}
	for _, l := range [][]api.Change{nil, {}, at('a', 12), at('a', 0)} {
		checkCommits(t, s, l, api.ErrState)
	}
}

func checkCommits(t *testing.T, s *Store, l []api.Change, want api.Errno) {
	t.Helper()
	if one, all := s.Commit(l), s.All(l); one != want || all != want {
		t.Errorf("of %d changes: Commit %v, All %v; want %v", len(l), one, all, want)
	}
}

// wrongByThemselves are changes that are not right for any store.
func wrongByThemselves() [][]api.Change {
	return [][]api.Change{
		{{}},
		{{Block: 0, Data: ""}},
		{{Block: 12, Data: of('a')[1:]}},
		{{Block: 12, Data: of('a') + "a"}},
		at('a', -1),
		at('a', api.MaxBlocks),
		at('a', 12, 12),
		at('a', 13, 12),
		run(firstFree, api.MaxChange+1, 'a'),
	}
}

func TestNilStore(t *testing.T) {
	checkNone(t, nil)
	for _, l := range wrongByThemselves() {
		checkCommits(t, nil, l, api.ErrState)
	}
}

// A store that Open did not make is not nil: changes that are not right come ahead of its state.
func TestUnmadeStore(t *testing.T) {
	checkNone(t, &Store{})
	for _, l := range wrongByThemselves() {
		checkCommits(t, &Store{}, l, api.ErrTxn)
	}
}

// R3

func TestNothingIsKept(t *testing.T) {
	spare := append(at('a', 10, 12), at('x', 13, 14)...)
	l := spare[:2]
	before := slices.Clone(spare)
	d := mustFormat(t, small, l)
	s := mustOpen(t, d)
	if e := s.Commit(l); e != api.OK || !slices.Equal(spare, before) {
		t.Fatal("Commit has changed what it was handed")
	}
	for i := range spare {
		spare[i] = api.Change{Block: 15, Data: of('?')}
	}
	finish(t, s)
	want := changed(small, at('a', 10, 12))
	if !slices.Equal(content(t, s), want) || !slices.Equal(content(t, mustOpen(t, d)), want) {
		t.Error("what was handed in was kept")
	}
	s.Checkpoint()
	finish(t, s)
	if !slices.Equal(lasting(d)[firstFree:], want) {
		t.Error("what was handed in was laid")
	}
}

// The plain store, by the document's words.

type plainAct struct {
	at   int // -1: a flush
	data string
	end  func()
}

// plain is a store with a device of its own, and all that was ever committed.
type plain struct {
	t       *testing.T
	shape   api.Shape
	d       *dev.Dev
	tail    int
	first   int
	base    []api.Change   // what the device was made with
	history [][]api.Change // of number 1 and so on, the one under way too
	done    int
	acts    []plainAct
}

func newPlain(t *testing.T, s api.Shape, base []api.Change) *plain {
	t.Helper()
	d, _ := dev.New(s.Blocks)
	write(t, d, 0, superOf(t, s))
	write(t, d, 1, headerOf(t, 0, 1, 1))
	for _, c := range base {
		write(t, d, c.Block, c.Data)
	}
	d.Flush()
	return &plain{t: t, shape: s, d: d, first: 1, base: base}
}

func (p *plain) ring() int { return p.shape.Journal - 1 }

// size is how many places the transactions from the first on, up to that number, have.
func (p *plain) size(last int) int {
	n := 0
	for i := p.first; i <= last; i++ {
		n += 1 + len(p.history[i-1])
	}
	return n
}

func (p *plain) header(end int) string {
	return headerOf(p.t, p.tail, uint64(p.first), uint64(end))
}

func (p *plain) act(at int, data string) { p.acts = append(p.acts, plainAct{at: at, data: data}) }
func (p *plain) flush(end func())        { p.acts = append(p.acts, plainAct{at: -1, end: end}) }
func (p *plain) content() []string       { return p.behind(p.done) }
func (p *plain) behind(count int) []string {
	return changed(p.shape, append([][]api.Change{p.base}, p.history[:count]...)...)
}

func (p *plain) checkpoint() {
	if p.first > p.done {
		return
	}
	last := map[int]string{}
	for _, l := range p.history[p.first-1 : p.done] {
		for _, c := range l {
			last[c.Block] = c.Data
		}
	}
	for _, at := range slices.Sorted(maps.Keys(last)) {
		p.act(at, last[at])
	}
	p.flush(nil)
	p.tail = (p.tail + p.size(p.done)) % p.ring()
	p.first = p.done + 1
	p.act(1, p.header(p.first))
	p.flush(nil)
}

func (p *plain) commit(l []api.Change) api.Errno {
	right := len(l) <= api.MaxChange
	for i, c := range l {
		right = right && c.Block > p.shape.Journal && c.Block < p.shape.Blocks && len(c.Data) == api.BlockSize && (i == 0 || l[i-1].Block < c.Block)
	}
	if !right {
		return api.ErrTxn
	}
	if len(p.acts) > 0 {
		return api.ErrState
	}
	if 1+len(l) > p.ring() {
		return api.ErrFull
	}
	if p.size(p.done)+1+len(l) > p.ring() {
		p.checkpoint()
	}
	place := p.tail + p.size(p.done)
	for i, b := range blocksOf(p.t, p.done+1, l) {
		p.act(2+(place+i)%p.ring(), b)
	}
	p.flush(nil)
	p.history = append(p.history, slices.Clone(l))
	p.act(1, p.header(p.done+2))
	p.flush(func() { p.done++ })
	return api.OK
}

func (p *plain) step() {
	a := p.acts[0]
	p.acts = p.acts[1:]
	if a.at >= 0 {
		write(p.t, p.d, a.at, a.data)
		return
	}
	p.d.Flush()
	if a.end != nil {
		a.end()
	}
}

// reopen is what comes behind a crash: the header tells which transactions there are; that all which were done are among those, and none but the one under way beside them, is looked at.
func (p *plain) reopen() {
	p.t.Helper()
	h, _ := p.d.Read(1)
	first, end := firstAndEnd(p.t, h)
	if first > p.done+1 || end-1 < p.done || end-1 > len(p.history) {
		p.t.Fatalf("behind a crash there are %d to %d; %d were done, of %d", first, end-1, p.done, len(p.history))
	}
	p.first, p.done = first, end-1
	// The tail is where the transaction of that number was begun.
	text, _ := sum.Unblock(h)
	p.tail = int(text[1]) | int(text[2])<<8
	p.history = p.history[:p.done]
	p.acts = nil
	p.checkpoint()
}

// held compares a store with the plain one.
func (p *plain) held(s *Store, d *dev.Dev) {
	p.t.Helper()
	if s.Count() != p.done || s.Busy() != (len(p.acts) > 0) || s.Shape() != p.shape || d.Waits() != p.d.Waits() {
		p.t.Fatalf("count %d, busy %v, %d wait; want %d, %d acts, %d", s.Count(), s.Busy(), d.Waits(), p.done, len(p.acts), p.d.Waits())
	}
	if !slices.Equal(seenOf(d), seenOf(p.d)) || !slices.Equal(lasting(d), lasting(p.d)) {
		p.t.Fatal("the devices differ")
	}
	if !slices.Equal(content(p.t, s), p.content()) {
		p.t.Fatal("other blocks are read")
	}
	// No commit changes the superblock and the journal's region: they are as the device has them.
	for i := range 1 + p.shape.Journal {
		b, _ := p.d.Read(i)
		checkBlock(p.t, s, i, b)
	}
}

// someChanges are changes, mostly right ones.
func someChanges(x *source, s api.Shape) []api.Change {
	l := []api.Change{}
	most := x.next(8)
	for b := 1 + s.Journal; b < s.Blocks && len(l) < most; b++ {
		if x.next(s.Blocks-s.Journal) < 6 {
			l = append(l, api.Change{Block: b, Data: of(byte(x.next(256)))})
		}
	}
	switch i := x.next(20); {
	case len(l) == 0:
	case i == 0:
		l[x.next(len(l))].Block = x.next(s.Blocks+4) - 2
	case i == 1:
		l[x.next(len(l))].Data = of('x')[x.next(3):]
	}
	return l
}

// TestLong: 9.3, 9.4 and 9.5 in long runs: each act, each crash and each mending is held against the plain store.
func TestLong(t *testing.T) {
	shapes := []api.Shape{small, {Blocks: 20, Journal: 9, Inodes: 4}, {Blocks: 40, Journal: 16, Inodes: 8}}
	for seed := range 60 {
		x := source(seed)
		shape := shapes[seed%len(shapes)]
		base := at('k', 1+shape.Journal, shape.Blocks-2)
		p := newPlain(t, shape, base)
		d := mustFormat(t, shape, base)
		s := mustOpen(t, d)
		for range 400 {
			switch i := x.next(40); {
			case i == 0:
				picks := []bool{}
				for range x.next(10) {
					picks = append(picks, x.next(2) == 0)
				}
				torn := x.next(3)
				if d.Crash(picks, torn) != api.OK || p.d.Crash(picks, torn) != api.OK {
					t.Fatal("Crash")
				}
				s = mustOpen(t, d)
				p.reopen()
			case i <= 2:
				want := api.OK
				if len(p.acts) > 0 {
					want = api.ErrState
				} else {
					p.checkpoint()
				}
				if e := s.Checkpoint(); e != want {
					t.Fatalf("Checkpoint: %v; want %v", e, want)
				}
			case i <= 9:
				l := someChanges(&x, shape)
				want := p.commit(l)
				if e := s.Commit(l); e != want {
					t.Fatalf("Commit: %v; want %v", e, want)
				}
			case len(p.acts) > 0:
				p.step()
				if done, e := s.Step(); done != (len(p.acts) == 0) || e != api.OK {
					t.Fatalf("Step: %v, %v", done, e)
				}
			default:
				if done, e := s.Step(); done || e != api.ErrState {
					t.Fatalf("Step: %v, %v", done, e)
				}
			}
			p.held(s, d)
		}
	}
}

// All is Commit with all steps.
func TestAll(t *testing.T) {
	x := source(5)
	one, two := mustFormat(t, small, nil), mustFormat(t, small, nil)
	a, b := mustOpen(t, one), mustOpen(t, two)
	for range 300 {
		l := someChanges(&x, small)
		want := a.Commit(l)
		finish(t, a)
		if e := b.All(l); e != want || b.Busy() || a.Count() != b.Count() {
			t.Fatalf("All: %v; want %v", e, want)
		}
		if !slices.Equal(seenOf(one), seenOf(two)) || two.Waits() != 0 || !slices.Equal(content(t, a), content(t, b)) {
			t.Fatal("All does something else")
		}
	}
}

// 9.4, 9.5: every crash of a script.

// script are commits; two of them need a checkpoint first.
func script() [][]api.Change {
	return [][]api.Change{
		at('a', 9, 12),
		nil,
		at('b', 12, 15),
		at('c', 9, 10, 11, 12, 13, 14),
		at('d', 9),
		at('e', 9, 15),
	}
}

// runTo has a script be done up to so many acts: the store, and how many commits were begun.
func runTo(t *testing.T, acts int) (*dev.Dev, *Store, int) {
	t.Helper()
	d := mustFormat(t, small, at('k', 15))
	s := mustOpen(t, d)
	begun := 0
	for range acts {
		for !s.Busy() && begun < len(script()) {
			if e := s.Commit(script()[begun]); e != api.OK {
				t.Fatal(e)
			}
			begun++
		}
		s.Step()
	}
	return d, s, begun
}

// picksOf are the lowest bits of a number.
func picksOf(mask, count int) []bool {
	l := []bool{}
	for i := range count {
		l = append(l, mask>>i&1 == 1)
	}
	return l
}

// afterCrash looks at a device behind a crash: least to most commits are there.
func afterCrash(t *testing.T, d *dev.Dev, least, most int) *Store {
	t.Helper()
	s := mustOpen(t, d)
	n := s.Count()
	if n < least || n > most {
		t.Fatalf("%d commits are there; want %d to %d", n, least, most)
	}
	lists := append([][]api.Change{at('k', 15)}, script()[:n]...)
	if !slices.Equal(content(t, s), changed(small, lists...)) {
		t.Fatalf("behind %d commits the blocks are others", n)
	}
	return s
}

func TestEveryCrash(t *testing.T) {
	states := map[string]int{}
	acts := 0
	for ; ; acts++ {
		d, s, begun := runTo(t, acts)
		done, over := s.Count(), !s.Busy()
		for mask := range 1 << d.Waits() {
			for torn := range 2 {
				d, _, _ := runTo(t, acts)
				d.Crash(picksOf(mask, d.Waits()), torn)
				state := strings.Join(lasting(d), "")
				s := afterCrash(t, d, done, max(begun, done))
				if over && s.Count() != done {
					t.Fatal("what was done is not there")
				}
				states[state] = s.Count()
				finish(t, s)
				if s = afterCrash(t, d, done, begun); s.Busy() || s.Count() != states[state] {
					t.Fatal("it is not mended")
				}
				// It goes on from there.
				for i := s.Count(); i < len(script()); i++ {
					mustAll(t, s, script()[i])
				}
				afterCrash(t, d, len(script()), len(script()))
			}
		}
		if over && begun == len(script()) {
			break
		}
	}
	if acts < 40 {
		t.Fatalf("the script has only %d acts", acts)
	}
	mendAgain(t, states)
}

// mendAgain has devices crash at every act of their mending, and again, until no new device comes.
func mendAgain(t *testing.T, states map[string]int) {
	t.Helper()
	work := slices.Sorted(maps.Keys(states))
	for len(work) > 0 {
		state := work[0]
		work = work[1:]
		count := states[state]
		blocks := []string{}
		for b := range slices.Chunk([]byte(state), api.BlockSize) {
			blocks = append(blocks, string(b))
		}
		for acts := 0; ; acts++ {
			mended := func() (*dev.Dev, *Store) {
				d := deviceOf(t, blocks)
				s := mustOpen(t, d)
				for range acts {
					s.Step()
				}
				return d, s
			}
			d, s := mended()
			for mask := range 1 << d.Waits() {
				d, _ := mended()
				d.Crash(picksOf(mask, d.Waits()), 0)
				afterCrash(t, d, count, count)
				next := strings.Join(lasting(d), "")
				if _, known := states[next]; !known {
					states[next] = count
					work = append(work, next)
				}
			}
			if !s.Busy() {
				break
			}
		}
	}
}

// P1

// Devices of any bytes are opened or refused, and what is opened can be mended.
func TestAnyBytes(t *testing.T) {
	x := source(99)
	good := logged(t, 4, 9, at('a', 9, 15), at('b', 10))
	for range 3000 {
		blocks := slices.Clone(good)
		for range 1 + x.next(3) {
			i := x.next(len(blocks))
			b := []byte(blocks[i])
			switch x.next(3) {
			case 0:
				b[x.next(len(b))] ^= 1 << x.next(8)
			case 1:
				for j := range b {
					b[j] = byte(x.next(256))
				}
			case 2:
				b = []byte(blocks[x.next(len(blocks))])
			}
			blocks[i] = string(b)
		}
		d := deviceOf(t, blocks)
		s, e := Open(d)
		switch e {
		case api.OK:
			told := content(t, s)
			finish(t, s)
			if !slices.Equal(lasting(d)[firstFree:], told) {
				t.Fatal("it was mended otherwise than it was told")
			}
		case api.ErrShape, api.ErrLog, api.ErrTxn:
			if s != nil || !slices.Equal(seenOf(d), blocks) {
				t.Fatalf("%v, and a store or a change", e)
			}
		default:
			t.Fatalf("Open: %v", e)
		}
	}
}

// A store whose device crashes or is written beneath it still ends every call.
func TestBeneath(t *testing.T) {
	x := source(7)
	d := mustFormat(t, small, nil)
	s := mustOpen(t, d)
	for range 2000 {
		switch x.next(8) {
		case 0:
			d.Crash(picksOf(x.next(256), 8), x.next(3))
		case 1:
			d.Write(x.next(16), of(byte(x.next(256))))
		case 2:
			s.Checkpoint()
		case 3:
			s.Commit(someChanges(&x, small))
		default:
			s.Step()
		}
		s.Read(x.next(20) - 2)
	}
	finish(t, s)
}

// R6: what is only asked changes nothing.
func TestAskedTwice(t *testing.T) {
	d := deviceOf(t, logged(t, 4, 9, at('a', 9, 15), at('b', 10)))
	s := mustOpen(t, d)
	before := *s
	for range 2 {
		s.Shape()
		s.Read(9)
		s.Busy()
		s.Count()
	}
	if !reflect.DeepEqual(before, *s) || d.Waits() != 0 {
		t.Error("something was changed")
	}
}
