package file

import (
	"math"
	"slices"
	"strings"
	"testing"

	"cartulary/api"
)

// source is a row of numbers that is the same in every run.
type source struct{ x uint32 }

func (s *source) next(n int) int {
	s.x = s.x*1664525 + 1013904223
	return int(s.x>>8) % n
}

// text are that many bytes of which none is 0.
func (s *source) text(n int) string {
	b := make([]byte, n)
	for i := range b {
		b[i] = byte(1 + s.next(255))
	}
	return string(b)
}

// odd are numbers at which sums wrap round, or which look small once their high bits are cut.
func odd() []int {
	return []int{math.MinInt, math.MinInt + 1, -1 << 32, -128, -1, 1 << 32, 1<<32 + 1, math.MaxInt - 1024, math.MaxInt - 1, math.MaxInt}
}

// few has 17 data blocks, from 23 on; many has 1004, from 20 on.
func few() api.Shape  { return api.Shape{Blocks: 40, Journal: 20, Inodes: 4} }
func many() api.Shape { return api.Shape{Blocks: 1024, Journal: 8, Inodes: 37} }

// with is a shape with so many data blocks, the first of which is 23.
func with(data int) api.Shape { return api.Shape{Blocks: 23 + data, Journal: 20, Inodes: 4} }

func aFile() api.Inode { return api.Inode{Kind: api.KindFile, Links: 1} }
func aDir() api.Inode  { return api.Inode{Kind: api.KindDir, Links: 1} }

func zero(s api.Shape) []string {
	return slices.Repeat([]string{zeros(128)}, s.Blocks)
}

// pair is a view, and a plain one to which the same is done.
type pair struct {
	t *testing.T
	v *View
	p *plain
}

func newPair(t *testing.T, s api.Shape, blocks []string) pair {
	t.Helper()
	v, e := New(s, blocks)
	if v == nil || e != api.OK {
		t.Fatalf("New(%v): %v, %v", s, v, e)
	}
	return pair{t, v, newPlain(s, blocks)}
}

// files is a pair of blocks of bytes 0, with files 0 and 1 and a directory 2.
func files(t *testing.T, s api.Shape) pair {
	t.Helper()
	x := newPair(t, s, zero(s))
	x.set(0, aFile(), api.OK)
	x.set(1, aFile(), api.OK)
	x.set(2, aDir(), api.OK)
	return x
}

// same holds all that can be told of the blocks against the plain ones.
func (x pair) same(what ...any) {
	x.t.Helper()
	if got, want := x.v.Changes(), x.p.changes(); !slices.Equal(got, want) {
		x.t.Fatalf("%v: Changes:\n%v, want\n%v", what, got, want)
	}
	if got, want := x.v.Free(), x.p.free(); got != want {
		x.t.Fatalf("%v: Free: %d, want %d", what, got, want)
	}
	for i := range x.p.shape.Inodes {
		n, e := x.v.Inode(i)
		if want, wantE := x.p.inode(i); n != want || e != wantE {
			x.t.Fatalf("%v: Inode(%d): %v, %v, want %v, %v", what, i, n, e, want, wantE)
		}
	}
}

func (x pair) set(i int, n api.Inode, want api.Errno) {
	x.t.Helper()
	e, plainE := x.v.Set(i, n), x.p.set(i, n)
	if e != want || plainE != want {
		x.t.Errorf("Set(%d, %v): %v, want %v (plain %v)", i, n, e, want, plainE)
	}
	x.same("Set", i, n)
}

func (x pair) write(i, at int, data string, want api.Errno) {
	x.t.Helper()
	e, plainE := x.v.Write(i, at, data), x.p.write(i, at, data)
	if e != want || plainE != want {
		x.t.Errorf("Write(%d, %d, %d bytes): %v, want %v (plain %v)", i, at, len(data), e, want, plainE)
	}
	x.same("Write", i, at, len(data))
}

func (x pair) cut(i, size int, want api.Errno) {
	x.t.Helper()
	e, plainE := x.v.Cut(i, size), x.p.cut(i, size)
	if e != want || plainE != want {
		x.t.Errorf("Cut(%d, %d): %v, want %v (plain %v)", i, size, e, want, plainE)
	}
	x.same("Cut", i, size)
}

func (x pair) read(i, at, many int, want string, wantE api.Errno) {
	x.t.Helper()
	if s, e := x.v.Read(i, at, many); s != want || e != wantE {
		x.t.Errorf("Read(%d, %d, %d): %q, %v, want %q, %v", i, at, many, s, e, want, wantE)
	}
	if s, e := x.p.read(i, at, many); s != want || e != wantE {
		x.t.Errorf("plain read(%d, %d, %d): %q, %v, want %q, %v", i, at, many, s, e, want, wantE)
	}
	x.same("Read", i, at, many)
}

func (x pair) at(i, index, want int, wantE api.Errno) {
	x.t.Helper()
	if b, e := x.v.At(i, index); b != want || e != wantE {
		x.t.Errorf("At(%d, %d): %d, %v, want %d, %v", i, index, b, e, want, wantE)
	}
}

func (x pair) free(want int) {
	x.t.Helper()
	if got := x.v.Free(); got != want {
		x.t.Errorf("Free: %d, want %d", got, want)
	}
}

func (x pair) inode(i int, want api.Inode, wantE api.Errno) {
	x.t.Helper()
	if n, e := x.v.Inode(i); n != want || e != wantE {
		x.t.Errorf("Inode(%d): %v, %v, want %v, %v", i, n, e, want, wantE)
	}
}

// 15.3: the document's example: Double's block, the one it names, the data block.
func TestExample(t *testing.T) {
	x := files(t, few())
	x.write(1, 128*70, "x", api.OK)
	x.free(14)
	x.at(1, 70, 25, api.OK)
	x.inode(1, api.Inode{Kind: api.KindFile, Links: 1, Size: 128*70 + 1, Double: 23}, api.OK)
	names := func(b int) string { return string([]byte{byte(b), 0}) + zeros(126) }
	got := x.v.Changes()[2:] // behind the bitmap's and the table's
	if want := []api.Change{{Block: 23, Data: names(24)}, {Block: 24, Data: names(25)}, {Block: 25, Data: "x" + zeros(127)}}; !slices.Equal(got, want) {
		t.Errorf("Changes: %v, want %v", got, want)
	}
}

// 15.1: which blocks there is a view of, and which error comes first.
func TestNew(t *testing.T) {
	for _, s := range []api.Shape{few(), many(), {Blocks: 16, Journal: 8, Inodes: 1}, {Blocks: 16, Journal: 8, Inodes: 8}, {Blocks: 1024, Journal: 256, Inodes: 64}} {
		x := newPair(t, s, zero(s))
		x.same(s)
		x.free(s.Blocks - x.p.data)
		short, long := zero(s), zero(s)
		short[s.Blocks-1], long[0] = zeros(127), zeros(129)
		none := zero(s)
		none[s.Blocks/2] = ""
		for _, blocks := range [][]string{nil, {}, zero(s)[1:], append(zero(s), zeros(128)), short, long, none, {strings.Repeat(zeros(128), s.Blocks)}} {
			if v, e := New(s, blocks); v != nil || e != api.ErrForm {
				t.Errorf("New(%v, %d blocks): %v, %v", s, len(blocks), v, e)
			}
		}
	}
	for _, s := range []api.Shape{{}, {Blocks: 15, Journal: 8, Inodes: 1}, {Blocks: 1025, Journal: 8, Inodes: 1}, {Blocks: 64, Journal: 7, Inodes: 1}, {Blocks: 1024, Journal: 257, Inodes: 1}, {Blocks: 64, Journal: 8}, {Blocks: 64, Journal: 8, Inodes: 65}, {Blocks: 16, Journal: 8, Inodes: 13}, {Blocks: -1, Journal: -1, Inodes: -1}, {Blocks: math.MaxInt, Journal: 8, Inodes: 1}} {
		for _, blocks := range [][]string{nil, {""}, slices.Repeat([]string{zeros(128)}, max(0, min(s.Blocks, 2000)))} {
			if v, e := New(s, blocks); v != nil || e != api.ErrShape {
				t.Errorf("New(%v, %d blocks): %v, %v", s, len(blocks), v, e)
			}
		}
	}
}

// 15.1: Free counts the bits of data blocks alone.
func TestFree(t *testing.T) {
	for _, s := range []api.Shape{few(), many()} {
		blocks := zero(s)
		for i, bits := range map[int]string{0: strings.Repeat("\xff", 128), 1: strings.Repeat("\x55", 128), 2: "\xff\xff" + zeros(126), 3: zeros(126) + "\xff\xff"} {
			blocks[1+s.Journal] = bits
			x := newPair(t, s, blocks)
			x.same(i)
		}
		x := newPair(t, s, blocks)
		blocks[1+s.Journal] = strings.Repeat("\xff", 128)
		x.same("a bitmap changed behind New")
	}
	s := few()
	blocks := zero(s)
	blocks[21] = strings.Repeat("\xff", 128)
	full := newPair(t, s, blocks)
	full.free(0)
	full.set(1, aFile(), api.OK)
	full.write(1, 0, "x", api.NoSpace)
	// Below the first data block (bit 23) and behind the last (39).
	blocks[21] = "\xff\xff\x7f" + zeros(2) + strings.Repeat("\xff", 123)
	newPair(t, s, blocks).free(17)
	// All but the first and the last.
	blocks[21] = zeros(3) + "\xff\x7f" + zeros(123)
	edge := newPair(t, s, blocks)
	edge.free(2)
	edge.set(1, aFile(), api.OK)
	edge.write(1, 0, strings.Repeat("x", 256), api.OK)
	edge.at(1, 0, 23, api.OK)
	edge.at(1, 1, 39, api.OK)
	edge.write(1, 256, "x", api.NoSpace)
}

// 15.1: what is again as it was at first is no change.
func TestChanges(t *testing.T) {
	x := files(t, few())
	x.write(1, 0, "ab", api.OK)
	if l := x.v.Changes(); len(l) != 3 || l[0].Block != 21 || l[1].Block != 22 || l[2].Block != 23 {
		t.Errorf("Changes: %v", l)
	}
	x.write(1, 0, "\x00\x00", api.OK)
	if l := x.v.Changes(); len(l) != 2 || l[0].Block != 21 || l[1].Block != 22 {
		t.Errorf("Changes: %v", l)
	}
	x.cut(1, 0, api.OK)
	for i := range 3 {
		x.set(i, api.Inode{}, api.OK)
	}
	if l := x.v.Changes(); len(l) != 0 {
		t.Errorf("Changes: %v", l)
	}
	// A block that is let go holds what it held.
	x.set(1, aFile(), api.OK)
	x.write(1, 0, "ab", api.OK)
	x.cut(1, 0, api.OK)
	x.set(1, api.Inode{}, api.OK)
	if l := x.v.Changes(); !slices.Equal(l, []api.Change{{Block: 23, Data: "ab" + zeros(126)}}) {
		t.Errorf("Changes: %v", l)
	}
}

// R3: neither what is handed in nor what is told is kept.
func TestMemory(t *testing.T) {
	s := few()
	blocks := append(make([]string, 0, 100), zero(s)...)
	v, _ := New(s, blocks)
	v.Set(1, aFile())
	v.Write(1, 0, "ab")
	for i := range blocks {
		blocks[i] = strings.Repeat("z", 128)
	}
	if spare := blocks[:100]; slices.ContainsFunc(spare[s.Blocks:], func(b string) bool { return b != "" }) {
		t.Errorf("spare room is changed")
	}
	if got, e := v.Read(1, 0, 9); got != "ab" || e != api.OK {
		t.Errorf("Read: %q, %v", got, e)
	}
	a, b := v.Changes(), v.Changes()
	for _, l := range [][]api.Change{a[:cap(a)]} {
		for i := range l {
			l[i] = api.Change{Block: -1, Data: "z"}
		}
	}
	if c := v.Changes(); !slices.Equal(b, c) || len(b) != 3 {
		t.Errorf("Changes: %v, ahead %v", c, b)
	}
}

// 15.2: inodes that are there, are not, and whose bytes are none.
func TestInode(t *testing.T) {
	s := api.Shape{Blocks: 64, Journal: 20, Inodes: 6}
	blocks := zero(s)
	ones := strings.Repeat("\x01", 32)
	blocks[22] = zeros(32) + ones + "\x02\x01" + zeros(30) + zeros(31) + "\x01"
	blocks[23] = "\x01\x64\x00\x23\x08\x00" + strings.Repeat("\xff\x03", 8) + zeros(10) + zeros(32) + "\x01\x01" + zeros(62)
	x := newPair(t, s, blocks)
	x.same()
	x.inode(0, api.Inode{}, api.OK)
	x.inode(1, api.Inode{}, api.ErrInode)
	x.inode(2, aDir(), api.OK)
	x.inode(3, api.Inode{}, api.ErrInode)
	x.inode(4, api.Inode{Kind: 1, Links: 100, Size: 533248, Direct: [6]int{1023, 1023, 1023, 1023, 1023, 1023}, Single: 1023, Double: 1023}, api.OK)
	x.inode(5, api.Inode{}, api.OK)
	for _, i := range append(odd(), 6, 7, 8, 63, 64) {
		x.inode(i, api.Inode{}, api.ErrNone)
	}
}

// 15.2: Set at each inode changes it and no other; one whose bytes are none is set too.
func TestSet(t *testing.T) {
	for _, s := range []api.Shape{few(), many()} {
		blocks := zero(s)
		r := &source{3}
		for b := range (s.Inodes + 3) / 4 {
			blocks[2+s.Journal+b] = r.text(128)
		}
		x := newPair(t, s, blocks)
		for i := range s.Inodes {
			x.inode(i, api.Inode{}, api.ErrInode)
			x.set(i, api.Inode{Kind: 1, Links: 2, Size: i, Direct: [6]int{1, 2, 3, 4, 5, 6}, Single: 7, Double: 1023}, api.OK)
		}
		for i := range s.Inodes {
			x.set(i, api.Inode{}, api.OK)
		}
	}
}

// 15.2: an n that is not right comes ahead of an i that is none, and is told whatever inode i's bytes are.
func TestSetWrong(t *testing.T) {
	s := few()
	blocks := zero(s)
	blocks[22] = zeros(32) + strings.Repeat("\x07", 32) + zeros(64)
	x := newPair(t, s, blocks)
	wrong := []api.Inode{{Kind: 3, Links: 1}, {Kind: -1, Links: 1}, {Links: 1}, {Size: 1}, {Double: 1}, {Kind: 1}, {Kind: 1, Links: 101}, {Kind: 2, Links: 2}, {Kind: 1, Links: 1, Size: -1}, {Kind: 1, Links: 1, Size: 533249}, {Kind: 1, Links: 1, Single: 1024}, {Kind: 1, Links: 1, Direct: [6]int{5: -1}}}
	for _, i := range append(odd(), 0, 1, 2, 3, 4) {
		for _, n := range wrong {
			x.set(i, n, api.ErrInode)
		}
	}
	for _, i := range append(odd(), 4, 63, 64) {
		x.set(i, aFile(), api.ErrNone)
		x.set(i, api.Inode{}, api.ErrNone)
	}
	x.set(1, aFile(), api.OK)
}

// 15.2: the block of an index: of each level, and where a number is no data block's.
func TestAt(t *testing.T) {
	x := files(t, many())
	for _, index := range []int{0, 5, 6, 69, 70, 133, 134, 4165} {
		x.at(1, index, 0, api.OK)
		x.write(1, 128*index, "x", api.OK)
		b := x.p.at(1, index)
		if b == 0 {
			t.Fatalf("plain: index %d has no block", index)
		}
		x.at(1, index, b, api.OK)
		x.at(0, index, 0, api.OK)
		x.at(3, index, 0, api.OK) // a free one's
	}
	for index := range 4166 {
		x.at(1, index, x.p.at(1, index), api.OK)
	}
	for _, index := range append(odd(), 4166, 4167) {
		for _, i := range append(odd(), 0, 1, 3, 37) {
			x.at(i, index, 0, api.ErrArg)
		}
	}
	for _, i := range append(odd(), 37, 64) {
		x.at(i, 0, 0, api.ErrNone)
		x.at(i, 4165, 0, api.ErrNone)
	}
}

// names is a block of names, all of them b.
func names(b int) string {
	return strings.Repeat(string([]byte{byte(b), byte(b >> 8)}), 64)
}

// 15.2: a number that is no data block counts as none, wherever it stands.
func TestNoDataBlock(t *testing.T) {
	s := few()
	for _, wrong := range []int{1, 20, 21, 22, 40, 41, 1023} {
		x := newPair(t, s, zero(s))
		x.set(1, api.Inode{Kind: 1, Links: 1, Size: 533248, Direct: [6]int{wrong, 23, 39}, Single: wrong, Double: wrong}, api.OK)
		x.at(1, 0, 0, api.OK)
		x.at(1, 1, 23, api.OK)
		x.at(1, 2, 39, api.OK)
		for _, index := range []int{6, 69, 70, 4165} {
			x.at(1, index, 0, api.OK)
			x.read(1, 128*index, 128, zeros(128), api.OK)
		}
	}
	for _, wrong := range []int{1, 22, 40, 1024, 1024 + 25, 23 << 8, 65535} {
		blocks := zero(s)
		blocks[23], blocks[24] = names(wrong), names(25)
		blocks[25] = names(wrong)
		x := newPair(t, s, blocks)
		x.set(1, api.Inode{Kind: 1, Links: 1, Size: 533248, Single: 23, Double: 24}, api.OK)
		x.set(2, api.Inode{Kind: 1, Links: 1, Size: 533248, Single: 24, Double: 23}, api.OK)
		for _, index := range []int{6, 69, 70, 133, 4165} {
			x.at(1, index, 0, api.OK)
			x.read(1, 128*index, 128, zeros(128), api.OK)
		}
		x.at(2, 6, 25, api.OK)
		x.at(2, 69, 25, api.OK)
		x.at(2, 70, 0, api.OK)
		// A block that names none but numbers of no data block names none.
		x.cut(1, 533248, api.OK)
		x.inode(1, api.Inode{Kind: 1, Links: 1, Size: 533248}, api.OK)
	}
}

// 15.3: what is read: up to Size, bytes of no block 0.
func TestRead(t *testing.T) {
	x := files(t, few())
	r := &source{8}
	text := r.text(300)
	x.read(1, 0, 1024, "", api.OK)
	x.write(1, 100, text, api.OK) // 0 to 3
	x.read(1, 100, 300, text, api.OK)
	x.read(1, 0, 1024, zeros(100)+text, api.OK)
	x.read(1, 99, 3, "\x00"+text[:2], api.OK)
	x.read(1, 127, 2, text[27:29], api.OK)
	x.read(1, 128, 128, text[28:156], api.OK)
	x.read(1, 399, 1, text[299:], api.OK)
	x.read(1, 399, 1024, text[299:], api.OK)
	x.read(1, 400, 1024, "", api.OK)
	x.read(1, 401, 1024, "", api.OK)
	x.read(1, 5, 0, "", api.OK)
	for _, at := range odd() {
		if at > 0 {
			x.read(1, at, 1024, "", api.OK)
			x.read(1, at, 0, "", api.OK)
		}
	}
	// A hole of 70 blocks, then one block, at whose end Size is.
	x.write(1, 128*71, text[:128], api.OK)
	x.read(1, 128*71-512, 1024, zeros(512)+text[:128], api.OK)
	x.read(1, 0, 512, zeros(100)+text+zeros(112), api.OK)
	// Bytes from Size on are not read, though a block has them.
	n, _ := x.v.Inode(1)
	n.Size = 130
	x.set(1, n, api.OK)
	x.read(1, 100, 1024, text[:30], api.OK)
	x.read(1, 130, 1024, "", api.OK)
	n.Size = 533248
	x.set(1, n, api.OK)
	x.read(1, 533247, 1024, "\x00", api.OK)
	x.read(1, 533248, 1024, "", api.OK)
	x.read(2, 0, 1024, "", api.OK)
}

// 15.3: which error of Read, Write and Cut comes first.
func TestErrors(t *testing.T) {
	s := few()
	blocks := zero(s)
	blocks[22] = zeros(64) + strings.Repeat("\x09", 32) + zeros(32)
	x := newPair(t, s, blocks)
	x.set(1, aFile(), api.OK)
	long := strings.Repeat("x", 1025)
	inodes := append(odd(), 0, 1, 2, 3, 4)
	for _, i := range inodes {
		for _, z := range odd() {
			if z < 0 {
				x.read(i, z, 0, "", api.ErrArg)
				x.read(i, z, z, "", api.ErrArg)
				x.write(i, z, "", api.ErrArg)
				x.write(i, z, "x", api.ErrArg)
				x.write(i, z, long, api.ErrArg)
			}
			if z != 0 {
				x.read(i, 0, z, "", api.ErrArg)
				x.cut(i, z, api.ErrArg)
			}
		}
		x.read(i, 0, 1025, "", api.ErrArg)
		x.write(i, 0, long, api.ErrArg)
		x.write(i, math.MaxInt, long, api.ErrArg)
		x.cut(i, 533249, api.ErrArg)
	}
	for i, e := range map[int]api.Errno{-1: api.ErrNone, 4: api.ErrNone, math.MaxInt: api.ErrNone, math.MinInt: api.ErrNone, 2: api.ErrInode, 0: api.ErrState, 3: api.ErrState} {
		x.read(i, 0, 0, "", e)
		x.read(i, math.MaxInt, 1024, "", e)
		for _, at := range []int{0, 533248, math.MaxInt} {
			x.write(i, at, "", e)
			x.write(i, at, "x", e)
		}
		x.cut(i, 0, e)
		x.cut(i, 533248, e)
	}
	if got, want := x.v.Changes(), newPlain(s, blocks).changes(); len(got) != 1+len(want) {
		t.Errorf("Changes: %v", got)
	}
}

// 15.3: no bytes change nothing, wherever they are; too many come ahead of no space.
func TestWriteEdges(t *testing.T) {
	x := files(t, few())
	for _, at := range []int{0, 1, 533247, 533248, 533249, 1 << 32, math.MaxInt} {
		x.write(1, at, "", api.OK)
	}
	x.inode(1, aFile(), api.OK)
	for _, at := range []int{533248, 533249, 1 << 32, math.MaxInt - 1, math.MaxInt} {
		x.write(1, at, "x", api.TooBig)
	}
	x.write(1, 533247, "xy", api.TooBig)
	x.write(1, 533248-1023, strings.Repeat("x", 1024), api.TooBig)
	x.write(1, 533248-1024, strings.Repeat("x", 1024), api.OK)
	x.inode(1, api.Inode{Kind: 1, Links: 1, Size: 533248, Double: 23}, api.OK)
	x.free(7)
	x.write(1, 533247, "y", api.OK)
	x.read(1, 533246, 9, "xy", api.OK)
	x.write(0, 533247, "yy", api.TooBig)
	x.write(0, 533247, "y", api.OK)
	x.write(0, 128, strings.Repeat("x", 1024), api.NoSpace)
	x.write(0, 533247, "yy", api.TooBig)
	x.inode(0, api.Inode{Kind: 1, Links: 1, Size: 533248, Double: 33}, api.OK)
	x.free(4)
}

// 15.3: which blocks are made, in which order, at each index where a level begins or ends.
func TestMade(t *testing.T) {
	for _, c := range []struct{ index, blocks int }{{0, 1}, {5, 1}, {6, 2}, {69, 2}, {70, 3}, {133, 3}, {134, 3}, {4165, 3}} {
		x := files(t, few())
		x.write(1, 128*c.index+127, "x", api.OK)
		x.free(17 - c.blocks)
		x.at(1, c.index, 23+c.blocks-1, api.OK)
	}
	// 5 and 6: the direct one ahead of Single's.
	x := files(t, few())
	x.write(1, 128*5+100, strings.Repeat("x", 128), api.OK)
	x.inode(1, api.Inode{Kind: 1, Links: 1, Size: 128*5 + 228, Direct: [6]int{5: 23}, Single: 24}, api.OK)
	x.at(1, 6, 25, api.OK)
	// 69 and 70: Double's behind the last that Single's names.
	x.write(1, 128*69, strings.Repeat("y", 129), api.OK)
	x.at(1, 69, 26, api.OK)
	x.at(1, 70, 29, api.OK)
	// 133 and 134: another one that Double's names.
	x.write(1, 128*133, strings.Repeat("z", 129), api.OK)
	x.at(1, 133, 30, api.OK)
	x.at(1, 134, 32, api.OK)
	x.free(7)
	// What is there is not made again.
	x.write(1, 128*133, strings.Repeat("z", 129), api.OK)
	x.free(7)
}

// 15.3: a block that is made is all 0, whatever it held.
func TestMadeBlank(t *testing.T) {
	s := few()
	blocks := zero(s)
	r := &source{5}
	for b := 23; b < 40; b++ {
		blocks[b] = r.text(128)
	}
	x := newPair(t, s, blocks)
	x.set(1, aFile(), api.OK)
	for _, index := range []int{0, 6, 70} {
		x.write(1, 128*index+5, "x", api.OK)
		x.read(1, 128*index, 128, zeros(5)+"x", api.OK)
		x.cut(1, 0, api.OK)
		x.set(1, aFile(), api.OK)
	}
}

// 15.3, 15.4: no space at each block that would have to be made, with all that was made ahead; nothing is changed.
func TestNoSpace(t *testing.T) {
	for _, c := range []struct{ index, blocks, bytes int }{{0, 6, 768}, {0, 9, 1024}, {2, 9, 1024}, {6, 9, 1024}, {66, 11, 1024}, {70, 10, 1024}, {130, 11, 1024}, {6, 2, 1}, {70, 3, 1}, {4165, 3, 128}} {
		for data := 4; data <= 12; data++ {
			for taken := range 4 {
				x := files(t, with(data))
				x.write(0, 0, strings.Repeat("o", 128*taken)+"o", api.OK)
				if data-taken-1 < c.blocks {
					x.write(1, 128*c.index, strings.Repeat("x", c.bytes), api.NoSpace)
					x.inode(1, aFile(), api.OK)
					x.free(data - taken - 1)
				} else {
					x.write(1, 128*c.index, strings.Repeat("x", c.bytes), api.OK)
					x.free(data - taken - 1 - c.blocks)
				}
			}
		}
	}
}

// 15.3: Cut at the edges of blocks and levels.
func TestCut(t *testing.T) {
	r := &source{4}
	for _, size := range []int{0, 1, 127, 128, 129, 640, 641, 767, 768, 769, 895, 896, 897, 128 * 69, 128*69 + 1, 128 * 70, 128*70 + 1, 128 * 71, 128*71 + 1, 128 * 134, 128*134 + 1, 128*134 + 127, 128 * 135, 128*135 + 1, 533247, 533248} {
		x := files(t, api.Shape{Blocks: 64, Journal: 20, Inodes: 4})
		for _, index := range []int{0, 1, 4, 5, 6, 7, 69, 70, 71, 133, 134, 135, 4165} {
			x.write(1, 128*index, r.text(128), api.OK)
		}
		x.write(0, 128*134, r.text(128), api.OK)
		x.cut(1, size, api.OK)
		for index := range 4166 {
			x.at(1, index, x.p.at(1, index), api.OK)
			if 128*index >= size {
				x.at(1, index, 0, api.OK)
			}
		}
		x.cut(1, 533248, api.OK)
		for _, index := range []int{0, 1, 4, 5, 6, 7, 69, 70, 71, 133, 134, 135, 4165} {
			want, _ := x.p.read(1, 128*index, 128)
			x.read(1, 128*index, 128, want, api.OK)
		}
		x.cut(1, 0, api.OK)
		x.inode(1, aFile(), api.OK)
		x.cut(0, 0, api.OK)
		x.free(41)
	}
}

// 15.3: which blocks that name are let go, and when.
func TestCutNamers(t *testing.T) {
	x := files(t, few())
	x.write(1, 128*6, "s", api.OK)   // 23 Single's, 24
	x.write(1, 128*70, "d", api.OK)  // 25 Double's, 26, 27
	x.write(1, 128*134, "e", api.OK) // 28, 29
	x.free(10)
	x.cut(1, 128*134+1, api.OK)
	x.free(10)
	x.cut(1, 128*134, api.OK)
	x.free(12)
	x.at(1, 70, 27, api.OK)
	x.cut(1, 128*70, api.OK)
	x.free(15)
	x.inode(1, api.Inode{Kind: 1, Links: 1, Size: 128 * 70, Single: 23}, api.OK)
	x.cut(1, 128*6, api.OK)
	x.free(17)
	x.inode(1, api.Inode{Kind: 1, Links: 1, Size: 128 * 6}, api.OK)
	// What was let go is made again, the least first.
	x.write(0, 0, "n", api.OK)
	x.at(0, 0, 23, api.OK)
	x.write(1, 128*134, "e", api.OK)
	x.at(1, 134, 26, api.OK)
	x.read(1, 128*133, 130, zeros(128)+"e", api.OK)
}

// 15.3: of the block in which size lies, and of no other one, the bytes from size on are 0.
func TestCutBlanks(t *testing.T) {
	x := files(t, few())
	r := &source{6}
	text := r.text(512)
	x.write(1, 0, text, api.OK)
	n, _ := x.v.Inode(1)
	n.Size = 10 // below it blocks 0 to 3 hold what they held
	x.set(1, n, api.OK)
	x.cut(1, 300, api.OK)
	x.read(1, 0, 1024, text[:300], api.OK)
	x.cut(1, 384, api.OK)
	x.read(1, 0, 1024, text[:300]+zeros(84), api.OK)
	x.cut(1, 256, api.OK)
	x.read(1, 0, 1024, text[:256], api.OK)
	x.cut(1, 129, api.OK)
	x.cut(1, 256, api.OK)
	x.read(1, 0, 1024, text[:129]+zeros(127), api.OK)
	x.cut(1, 1000, api.OK)
	x.read(1, 0, 1024, text[:129]+zeros(1000-129), api.OK)
	x.free(15)
	// A hole is not filled.
	x.cut(1, 0, api.OK)
	x.cut(1, 77, api.OK)
	x.free(17)
	x.at(1, 0, 0, api.OK)
}

// 15.3: blocks that name none are let go, though Cut lets go of no other; numbers of no data block stay.
func TestCutOdd(t *testing.T) {
	s := few()
	blocks := zero(s)
	blocks[21] = strings.Repeat("\xff", 128)
	blocks[25] = string([]byte{26, 0, 27, 0}) + zeros(124)
	blocks[27] = zeros(126) + string([]byte{28, 0})
	x := newPair(t, s, blocks)
	x.set(1, api.Inode{Kind: 1, Links: 1, Direct: [6]int{5, 40}, Single: 23, Double: 24}, api.OK)
	x.cut(1, 533248, api.OK)
	x.inode(1, api.Inode{Kind: 1, Links: 1, Size: 533248, Direct: [6]int{5, 40}}, api.OK)
	x.free(2)
	// Of Double's block, 25, the first that it names (26) names none; the second (27) names 28.
	x.set(1, api.Inode{Kind: 1, Links: 1, Double: 25}, api.OK)
	x.cut(1, 533248, api.OK)
	x.free(3)
	x.at(1, 197, 28, api.OK)
	x.cut(1, 0, api.OK)
	x.inode(1, aFile(), api.OK)
	x.free(6)
	x.set(1, api.Inode{Kind: 1, Links: 1, Direct: [6]int{5, 40}, Single: 1023, Double: 1}, api.OK)
	x.cut(1, 0, api.OK)
	x.inode(1, api.Inode{Kind: 1, Links: 1, Direct: [6]int{5, 40}, Single: 1023, Double: 1}, api.OK)
	// A write takes them as none.
	for _, index := range []int{0, 1, 6} {
		x.write(1, 128*index, "x", api.OK)
	}
	x.write(1, 128*70, "x", api.NoSpace)
	x.cut(1, 128*6, api.OK)
	x.write(1, 128*70, "x", api.OK)
	x.inode(1, api.Inode{Kind: 1, Links: 1, Size: 128*70 + 1, Direct: [6]int{23, 24}, Double: 25}, api.OK)
}

// A nil view, and one that New did not make: ErrNone ahead of all else.
func TestNil(t *testing.T) {
	for _, v := range []*View{nil, {}} {
		if l := v.Changes(); len(l) != 0 {
			t.Errorf("Changes: %v", l)
		}
		if n := v.Free(); n != 0 {
			t.Errorf("Free: %d", n)
		}
		for _, i := range append(odd(), 0, 1) {
			if n, e := v.Inode(i); n != (api.Inode{}) || e != api.ErrNone {
				t.Errorf("Inode(%d): %v, %v", i, n, e)
			}
			for _, n := range []api.Inode{{}, aFile(), {Kind: 7}} {
				if e := v.Set(i, n); e != api.ErrNone {
					t.Errorf("Set(%d, %v): %v", i, n, e)
				}
			}
			for _, z := range append(odd(), 0, 1, 5000, 600000) {
				if b, e := v.At(i, z); b != 0 || e != api.ErrNone {
					t.Errorf("At(%d, %d): %d, %v", i, z, b, e)
				}
				if e := v.Cut(i, z); e != api.ErrNone {
					t.Errorf("Cut(%d, %d): %v", i, z, e)
				}
				for _, m := range append(odd(), 0, 1) {
					if s, e := v.Read(i, z, m); s != "" || e != api.ErrNone {
						t.Errorf("Read(%d, %d, %d): %q, %v", i, z, m, s, e)
					}
				}
				for _, data := range []string{"", "x", strings.Repeat("x", 1025)} {
					if e := v.Write(i, z, data); e != api.ErrNone {
						t.Errorf("Write(%d, %d): %v", i, z, e)
					}
				}
			}
		}
	}
}
