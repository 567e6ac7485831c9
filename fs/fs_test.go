package fs

import (
	"math"
	"slices"
	"strconv"
	"strings"
	"testing"

	"cartulary/api"
	"cartulary/fsck"
	"cartulary/model"
	"cartulary/txn"
)

// source is a row of numbers that is the same in every run.
type source struct{ x uint32 }

func (s *source) next(n int) int {
	s.x = s.x*1664525 + 1013904223
	return int(s.x>>8) % n
}

// odd are numbers at which sums wrap round, or which look small once their high bits are cut.
func odd() []int {
	return []int{math.MinInt, math.MinInt + 1, -1 << 32, -128, -1, 1 << 32, 1<<32 + 1, math.MaxInt - 1024, math.MaxInt - 1, math.MaxInt}
}

// of is a shape with so many data blocks and inodes.
func of(data, inodes int) api.Shape {
	return api.Shape{Blocks: 22 + (inodes+3)/4 + data, Journal: 20, Inodes: inodes}
}

func long(n int) string { return strings.Repeat("n", n) }

func create(p string) api.Op        { return api.Op{Kind: api.OpCreate, Path: p} }
func mkdir(p string) api.Op         { return api.Op{Kind: api.OpMkdir, Path: p} }
func stat(p string) api.Op          { return api.Op{Kind: api.OpStat, Path: p} }
func list(p string) api.Op          { return api.Op{Kind: api.OpList, Path: p} }
func unlink(p string) api.Op        { return api.Op{Kind: api.OpUnlink, Path: p} }
func rmdir(p string) api.Op         { return api.Op{Kind: api.OpRmdir, Path: p} }
func link(p, to string) api.Op      { return api.Op{Kind: api.OpLink, Path: p, To: to} }
func rename(p, to string) api.Op    { return api.Op{Kind: api.OpRename, Path: p, To: to} }
func cut(p string, n int) api.Op    { return api.Op{Kind: api.OpTruncate, Path: p, N: n} }
func failed(e api.Errno) api.Result { return api.Result{E: e} }

func write(p string, at int, data string) api.Op {
	return api.Op{Kind: api.OpWrite, Path: p, At: at, Data: data}
}

func read(p string, at, n int) api.Op {
	return api.Op{Kind: api.OpRead, Path: p, At: at, N: n}
}

func same(a, b api.Result) bool {
	return a.E == b.E && a.Data == b.Data && a.Kind == b.Kind && a.Links == b.Links && a.Size == b.Size && slices.Equal(a.Names, b.Names)
}

func sameTree(a []fsck.File, b []model.File) bool {
	return slices.EqualFunc(a, b, func(x fsck.File, y model.File) bool {
		return x.Path == y.Path && x.Inode == y.Inode && x.Kind == y.Kind && x.Links == y.Links && x.Size == y.Size && slices.Equal(x.Blocks, y.Blocks) && x.Data == y.Data
	})
}

func blank(s api.Shape) []string {
	out := []string{}
	for range s.Blocks {
		out = append(out, strings.Repeat("\x00", api.BlockSize))
	}
	return out
}

func apply(blocks []string, l []api.Change) []string {
	out := slices.Clone(blocks)
	for _, c := range l {
		out[c.Block] = c.Data
	}
	return out
}

// formatted are the blocks of a new file system, the superblock and the journal full of bytes that nobody may look at.
func formatted(t *testing.T, s api.Shape) []string {
	t.Helper()
	l, e := Format(s)
	if e != api.OK {
		t.Fatalf("Format(%v): %v", s, e)
	}
	blocks := apply(blank(s), l)
	for b := range 1 + s.Journal {
		blocks[b] = long(api.BlockSize)
	}
	return blocks
}

// pair is a file system's blocks, and a model that was told the same.
type pair struct {
	t      *testing.T
	s      api.Shape
	blocks []string
	m      *model.Model
}

// newPair is a new one, with what some operations did that all go well.
func newPair(t *testing.T, s api.Shape, ops ...api.Op) *pair {
	t.Helper()
	m, e := model.New(s)
	if e != api.OK {
		t.Fatalf("New(%v): %v", s, e)
	}
	x := &pair{t, s, formatted(t, s), m}
	x.all(api.OK, ops...)
	return x
}

// do does an operation on both: what is told, what is changed, and what the blocks say then (17.2 to 17.4, 18.3).
func (x *pair) do(op api.Op) (api.Result, []api.Change) {
	x.t.Helper()
	want := x.m.Do(op)
	given := slices.Clone(x.blocks)
	r, c, e := Do(x.s, x.blocks, op)
	if e != api.OK || !same(r, want) {
		x.t.Fatalf("%+v: %+v, %v, want %+v", op, r, e, want)
	}
	if !slices.Equal(given, x.blocks) {
		x.t.Fatalf("%+v: it changed the blocks that it was handed", op)
	}
	tells := op.Kind == api.OpRead || op.Kind == api.OpStat || op.Kind == api.OpList
	if len(c) > 0 && (r.E != api.OK || tells) {
		x.t.Fatalf("%+v: %v with changes %v", op, r.E, blocksOf(c))
	}
	checkChanges(x.t, x.s, x.blocks, c)
	x.blocks = apply(x.blocks, c)
	if tree, e := fsck.Tree(x.s, x.blocks); e != api.OK || !sameTree(tree, x.m.Tree()) {
		rule, _ := fsck.Check(x.s, x.blocks)
		x.t.Fatalf("%+v: rule %d, %v, want %v", op, rule, tree, x.m.Tree())
	}
	return r, c
}

// all are operations that all answer nothing but E.
func (x *pair) all(want api.Errno, ops ...api.Op) {
	x.t.Helper()
	for _, op := range ops {
		if r, _ := x.do(op); !same(r, failed(want)) {
			x.t.Errorf("%+v: %+v, want %v", op, r, want)
		}
	}
}

func (x *pair) tells(op api.Op, want api.Result) {
	x.t.Helper()
	if r, _ := x.do(op); !same(r, want) {
		x.t.Errorf("%+v: %+v, want %+v", op, r, want)
	}
}

// changes is an operation that goes well and changes just these blocks.
func (x *pair) changes(op api.Op, want ...int) {
	x.t.Helper()
	if r, c := x.do(op); r.E != api.OK || !slices.Equal(blocksOf(c), want) {
		x.t.Errorf("%+v: %v, changes of %v, want %v", op, r.E, blocksOf(c), want)
	}
}

func blocksOf(l []api.Change) []int {
	out := []int{}
	for _, c := range l {
		out = append(out, c.Block)
	}
	return out
}

// checkChanges holds 17.4, and that what is told to be changed is.
func checkChanges(t *testing.T, s api.Shape, blocks []string, l []api.Change) {
	t.Helper()
	if e := txn.Check(l); e != api.OK || len(l) > 18 {
		t.Fatalf("changes of %v: %v", blocksOf(l), e)
	}
	for _, c := range l {
		if c.Block <= s.Journal || c.Block >= s.Blocks || blocks[c.Block] == c.Data {
			t.Fatalf("changes of %v: block %d", blocksOf(l), c.Block)
		}
	}
}

// wrongShapes are no shapes of a file system.
func wrongShapes() []api.Shape {
	return []api.Shape{
		{}, {Blocks: 40, Journal: 19, Inodes: 8}, {Blocks: 64, Journal: 8, Inodes: 10}, {Blocks: 26, Journal: 20, Inodes: 1}, {Blocks: 28, Journal: 20, Inodes: 9},
		{Blocks: 1025, Journal: 20, Inodes: 8}, {Blocks: 1024, Journal: 257, Inodes: 8}, {Blocks: 64, Journal: 20}, {Blocks: 64, Journal: 20, Inodes: 65},
		{Blocks: -1, Journal: -1, Inodes: -1}, {Blocks: math.MaxInt, Journal: math.MaxInt, Inodes: math.MaxInt}, {Blocks: math.MinInt, Journal: 20, Inodes: 8},
	}
}

// edgeShapes are the least and the greatest ones.
func edgeShapes() []api.Shape {
	return []api.Shape{
		{Blocks: 27, Journal: 20, Inodes: 1}, {Blocks: 27, Journal: 20, Inodes: 4}, {Blocks: 28, Journal: 20, Inodes: 5}, {Blocks: 42, Journal: 20, Inodes: 64},
		{Blocks: 1024, Journal: 256, Inodes: 64}, {Blocks: 1024, Journal: 20, Inodes: 1}, {Blocks: 64, Journal: 21, Inodes: 10},
	}
}

// 17.1: one change, of the first table block; it makes blocks of bytes 0 a new file system.
func TestFormat(t *testing.T) {
	for _, s := range edgeShapes() {
		want := api.Change{Block: s.Journal + 2, Data: "\x02\x01" + strings.Repeat("\x00", 126)}
		l, e := Format(s)
		if e != api.OK || !slices.Equal(l, []api.Change{want}) {
			t.Errorf("Format(%v): %v, %v", s, l, e)
		}
		x := newPair(t, s)
		x.tells(stat("/"), api.Result{Kind: api.KindDir, Links: 1})
		x.tells(list("/"), api.Result{})
	}
	for _, s := range wrongShapes() {
		if l, e := Format(s); len(l) != 0 || e != api.ErrShape {
			t.Errorf("Format(%v): %v, %v", s, l, e)
		}
	}
}

// The chapter's example, and the bytes that it speaks of.
func TestExample(t *testing.T) {
	s := api.Shape{Blocks: 40, Journal: 20, Inodes: 8}
	l, e := Format(s)
	if e != api.OK || !slices.Equal(blocksOf(l), []int{22}) {
		t.Errorf("Format: %v, %v", l, e)
	}
	x := newPair(t, s)
	_, c := x.do(create("/a"))
	zeros := func(n int) string { return strings.Repeat("\x00", n) }
	want := []api.Change{
		{Block: 21, Data: zeros(3) + "\x01" + zeros(124)},
		{Block: 22, Data: "\x02\x01\x20" + zeros(3) + "\x18" + zeros(25) + "\x01\x01" + zeros(94)},
		{Block: 24, Data: "\x01\x00\x01a" + zeros(124)},
	}
	if !slices.Equal(c, want) {
		t.Errorf("%+v, want %+v", c, want)
	}
}

// 17.2: which blocks each operation changes, and no others.
func TestChanges(t *testing.T) {
	x := newPair(t, api.Shape{Blocks: 60, Journal: 20, Inodes: 8})
	x.changes(create("/f"), 21, 22, 24)
	x.changes(mkdir("/d"), 22, 24)
	x.changes(create("/d/g"), 21, 22, 25)
	x.changes(create("/d/h"), 22, 23, 25)
	x.changes(write("/f", 0, "x"), 21, 22, 26)
	x.changes(write("/f", 0, "x"))
	x.changes(write("/f", 0, "y"), 26)
	x.changes(write("/f", 1, "z"), 22, 26)
	x.changes(write("/f", 7, ""))
	x.changes(write("/d/h", 128*5+127, "xy"), 21, 23, 27, 28, 29)
	x.changes(write("/d/h", 128*69+127, "xy"), 21, 23, 28, 30, 31, 32, 33)
	x.changes(link("/f", "/d/i"), 22, 25)
	x.changes(rename("/d/g", "/j"), 22, 24, 25)
	x.changes(rename("/j", "/g"), 24)
	x.changes(unlink("/f"), 22, 24)
	x.changes(cut("/d/i", 1), 22, 26)
	x.changes(cut("/d/i", 1))
	x.changes(cut("/d/i", 0), 21, 22)
	x.changes(cut("/d/h", 128*7), 21, 23, 28)
	x.changes(unlink("/d/i"), 22, 25)
	x.changes(unlink("/d/h"), 21, 23, 25)
	x.changes(rmdir("/d"), 21, 22, 24)
	x.changes(list("/"))
	x.changes(stat("/g"))
	x.changes(read("/g", 0, 1024))
}

// 17.2 and R1: a shape that is none comes first, then blocks, then a tree that is none, and then the result.
func TestFirst(t *testing.T) {
	s := of(16, 8)
	good, noRoot := formatted(t, s), blank(s)
	short, longer := slices.Clone(noRoot), slices.Clone(noRoot)
	short[0], longer[s.Blocks-1] = long(127), long(129)
	wrong := api.Op{Kind: 99, Path: "x", To: "", At: -1, N: -1, Data: long(1025)}
	check := func(s api.Shape, blocks []string, op api.Op, want api.Errno) {
		t.Helper()
		if r, c, e := Do(s, blocks, op); e != want || !same(r, api.Result{}) || len(c) != 0 {
			t.Errorf("Do(%v, %d blocks, %+v): %+v, %v, %v, want %v", s, len(blocks), op, r, c, e, want)
		}
	}
	for _, op := range []api.Op{wrong, create("/a"), stat("/")} {
		for _, w := range wrongShapes() {
			for _, blocks := range [][]string{good, noRoot, short, nil} {
				check(w, blocks, op, api.ErrShape)
			}
			if 0 < w.Blocks && w.Blocks <= api.MaxBlocks {
				check(w, blank(w), op, api.ErrShape)
			}
		}
		for _, blocks := range [][]string{nil, {}, good[1:], append(slices.Clone(good), good[1]), short, longer} {
			check(s, blocks, op, api.ErrForm)
		}
		check(s, noRoot, op, api.ErrTree)
	}
	if r, c, e := Do(s, good, wrong); e != api.OK || len(c) != 0 || !same(r, failed(api.Invalid)) {
		t.Errorf("%+v, %v, %v", r, c, e)
	}
}

// kinds are operations of every kind, and of none, on a path.
func kinds(p string) []api.Op {
	return []api.Op{
		create(p), mkdir(p), write(p, 0, "x"), cut(p, 1), read(p, 0, 1), stat(p), list(p), link(p, "/new"), unlink(p), rmdir(p), rename(p, "/new"),
		{Kind: 0, Path: p}, {Kind: 12, Path: p}, {Kind: math.MinInt, Path: p}, {Kind: 1<<32 + 1, Path: p},
	}
}

// spoil are the blocks with other bytes from a place of a block on.
func spoil(blocks []string, b, at int, bytes string) []string {
	text := blocks[b]
	return apply(blocks, []api.Change{{Block: b, Data: text[:at] + bytes + text[at+len(bytes):]}})
}

// fails asks that operations come upon what is no tree, and tell nothing else.
func fails(t *testing.T, s api.Shape, blocks []string, ops ...api.Op) {
	t.Helper()
	for _, op := range ops {
		if r, c, e := Do(s, blocks, op); e != api.ErrTree || !same(r, api.Result{}) || len(c) != 0 {
			t.Errorf("%+v: %+v, %v, %v", op, r, blocksOf(c), e)
		}
	}
}

// answers asks that operations do not come upon it, and answer nothing but E.
func answers(t *testing.T, s api.Shape, blocks []string, want api.Errno, ops ...api.Op) {
	t.Helper()
	for _, op := range ops {
		r, c, e := Do(s, blocks, op)
		if e != api.OK || r.E != want || want != api.OK && (len(c) != 0 || !same(r, failed(want))) {
			t.Errorf("%+v: %+v, %v, %v, want %v", op, r, blocksOf(c), e, want)
		}
	}
}

// 17.2: inode 0 is free, a file, or no inode: no operation finds a tree, not even one that is none, or on a path that is none.
func TestNoRoot(t *testing.T) {
	x := newPair(t, of(16, 8), create("/a"))
	for _, bytes := range []string{strings.Repeat("\x00", 32), "\x01", "\x03", "\x02\x02", "\x00"} {
		spoiled := spoil(x.blocks, 22, 0, bytes)
		for _, p := range []string{"/", "/a", "/a/b", "/x", "", "/" + long(25)} {
			fails(t, x.s, spoiled, kinds(p)...)
		}
	}
	fails(t, x.s, spoil(x.blocks, 22, 31, "\x01"), stat("/"))
}

// stray are a file system's blocks, one time for each thing that slot a of the root may name and that is not as it must be: inode 1 free, or no inode's bytes; no inode's number.
func stray(t *testing.T) (api.Shape, [][]string) {
	x := newPair(t, of(16, 8), create("/a"), create("/f"), mkdir("/d"), create("/d/g"))
	return x.s, [][]string{
		spoil(x.blocks, 22, 32, strings.Repeat("\x00", 32)),
		spoil(x.blocks, 22, 32, "\x03"),
		spoil(x.blocks, 22, 33, "\x65"),
		spoil(x.blocks, 22, 63, "\x01"),
		spoil(x.blocks, 24, 0, "\x05"),
		spoil(x.blocks, 24, 0, "\x08"),
		spoil(x.blocks, 24, 0, "\x40"),
		spoil(x.blocks, 24, 0, "\x00\x01"),
		spoil(x.blocks, 24, 0, "\xff\xff"),
	}
}

// 17.2: an operation whose way leads by such a slot comes upon it; one that tells something else ahead does not.
func TestComesUpon(t *testing.T) {
	s, spoiled := stray(t)
	for _, blocks := range spoiled {
		fails(t, s, blocks, write("/a", 0, "x"), write("/a", 0, ""), write("/a", 533248, "x"), cut("/a", 1), read("/a", 0, 1), stat("/a"), list("/a"), link("/a", "/new"), unlink("/a"), rmdir("/a"), rename("/a", "/new"))
		fails(t, s, blocks, link("/a", "/"), link("/a", "/f"), rename("/a", "/"), rename("/a", "/a"), rename("/a", "/a/b"), rename("/a", "/d"))
		fails(t, s, blocks, create("/a/b"), mkdir("/a/b"), stat("/a/b"), list("/a/b"), unlink("/a/b"), rmdir("/a/b/c"), link("/f", "/a/b"), rename("/f", "/a/b"), rename("/d", "/a/b/c"))

		answers(t, s, blocks, api.Exists, create("/a"), mkdir("/a"), link("/f", "/a"), rename("/f", "/a"), rename("/d", "/a"), rename("/f", "/"))
		answers(t, s, blocks, api.Invalid, write("/a", -1, "x"), write("/a", 0, long(1025)), cut("/a", -1), read("/a", -1, 1), read("/a", 0, 1025), create("/a/"), create("/a/./b"), link("/a", "b"), rename("/", "/a/b"), rename("/a", ""))
		answers(t, s, blocks, api.TooBig, cut("/a", 533249))
		answers(t, s, blocks, api.LongName, stat("/a/"+long(25)), link("/a", "/"+long(25)), create("/a"+strings.Repeat("/b", 8)))
		answers(t, s, blocks, api.IsDir, link("/d", "/a/b"), unlink("/"))
		answers(t, s, blocks, api.NotDir, link("/f/x", "/a/b"), rename("/f/x", "/a/b"))
		answers(t, s, blocks, api.NoEntry, link("/x", "/a/b"), rename("/d/x", "/a/b"))
		answers(t, s, blocks, api.OK, stat("/f"), read("/f", 0, 1), write("/f", 0, "x"), unlink("/f"), rename("/d", "/e"), link("/d/g", "/h"))
		if r, _, e := Do(s, blocks, list("/")); e != api.OK || !slices.Equal(r.Names, []string{"a", "d", "f"}) {
			t.Errorf("%+v, %v", r, e)
		}
	}
}

// 17.2: the least free inode is looked for from 1 on, up to the first that is none; behind it none is looked at, and none at all where something else is told ahead.
func TestFreeInode(t *testing.T) {
	x := newPair(t, of(16, 8), create("/a"), create("/b"), create("/c"), unlink("/b"))
	first, second, third := spoil(x.blocks, 22, 32, "\x03"), spoil(x.blocks, 22, 64, "\x03"), spoil(x.blocks, 22, 96, "\x03")
	fails(t, x.s, first, create("/n"), mkdir("/n"))
	fails(t, x.s, second, create("/n"), mkdir("/n"))
	answers(t, x.s, third, api.OK, create("/n"), mkdir("/n"))
	for _, blocks := range [][]string{first, second, third} {
		answers(t, x.s, blocks, api.Exists, create("/"), create("/a"), mkdir("/c"))
		answers(t, x.s, blocks, api.NoEntry, create("/x/y"))
		answers(t, x.s, blocks, api.OK, list("/"))
	}
	_, c, _ := Do(x.s, third, create("/n"))
	if b := apply(third, c); b[22][64:66] != "\x01\x01" || b[24][32:36] != "\x02\x00\x01n" {
		t.Errorf("%q", b[22:25])
	}
	full := newPair(t, of(16, 4), create("/a"), create("/b"), create("/c"))
	full.all(api.NoSpace, create("/n"), mkdir("/n"))
	fails(t, full.s, spoil(full.blocks, 22, 96, "\x03"), create("/n"))
	least := newPair(t, of(16, 1))
	least.all(api.NoSpace, create("/n"), mkdir("/n"))
}

// 17.2: what a slot says that no operation asks for does not matter: slots that are free, or have no name, and what is behind a name.
func TestOddSlots(t *testing.T) {
	x := newPair(t, of(16, 8), create("/a"), create("/b"), mkdir("/d"), create("/d/g"))
	noName := spoil(x.blocks, 24, 2, "\x19")
	answers(t, x.s, noName, api.NoEntry, stat("/a"), unlink("/a"))
	answers(t, x.s, noName, api.OK, create("/a"), stat("/b"))
	if r, _, e := Do(x.s, noName, list("/")); e != api.OK || !slices.Equal(r.Names, []string{"b", "d"}) {
		t.Errorf("%+v, %v", r, e)
	}
	answers(t, x.s, spoil(x.blocks, 24, 31, "\x01"), api.OK, stat("/a"), unlink("/a"))
	answers(t, x.s, spoil(x.blocks, 24, 0, "\x00"), api.NoEntry, stat("/a"))
	// A directory whose one slot has no name, and names no inode, is not empty.
	answers(t, x.s, spoil(x.blocks, 25, 0, "\xff\xff\xff"), api.NotEmpty, rmdir("/d"))
	answers(t, x.s, spoil(x.blocks, 25, 0, "\x00\x00\xff"), api.OK, rmdir("/d"))
	// Two slots of one name: the first one counts.
	twice := spoil(x.blocks, 24, 32, x.blocks[24][:32])
	_, c, e := Do(x.s, twice, unlink("/a"))
	if b := apply(twice, c); e != api.OK || b[24][:3] != "\x00\x00\x00" || b[24][32:36] != "\x01\x00\x01a" {
		t.Errorf("%q, %v", b[24], e)
	}
}

// 17.2: a name is taken away though its block is not taken; that block is no file's that is let go.
func TestUntaken(t *testing.T) {
	x := newPair(t, of(16, 8), create("/a"), write("/a", 128*6, "x"), mkdir("/d"))
	untaken := spoil(x.blocks, 21, 3, "\x0e")
	for _, op := range []api.Op{unlink("/a"), rmdir("/d")} {
		r, c, e := Do(x.s, untaken, op)
		if r.E != api.OK || e != api.OK || !slices.Contains(blocksOf(c), 24) {
			t.Fatalf("%+v: %v, %v, changes of %v", op, r.E, e, blocksOf(c))
		}
		answers(t, x.s, apply(untaken, c), api.NoEntry, stat(op.Path))
	}
}

// 17.2: what a directory that is as large as can be says, if every index has one block, and that has no slot left: its name wants a block beyond all.
func TestDirectoryTooBig(t *testing.T) {
	x := newPair(t, of(16, 8), create("/a"), create("/b"), create("/c"), create("/d"))
	names := strings.Repeat("\x19\x00", 64)
	blocks := spoil(x.blocks, 22, 2, "\x00\x23\x08\x00"+strings.Repeat("\x18\x00", 6)+"\x19\x00\x1a\x00")
	for at, to := range map[int]string{25: strings.Repeat("\x18\x00", 64), 26: names} {
		blocks = spoil(blocks, at, 0, to)
	}
	if r, _, e := Do(x.s, blocks, stat("/")); e != api.OK || r.Size != api.MaxSize {
		t.Fatalf("%+v, %v", r, e)
	}
	answers(t, x.s, blocks, api.TooBig, create("/n"), link("/a", "/n"))
	answers(t, x.s, blocks, api.Exists, create("/a"))
}

// stock are operations that all go well.
func stock() []api.Op {
	return []api.Op{create("/f"), mkdir("/d"), create("/d/g"), mkdir("/d/e"), write("/d/g", 300, "xyz")}
}

// 17.2, R1, R4: every operation on every kind of path and with numbers of all sizes tells what the model tells, which error comes first too.
func TestErrors(t *testing.T) {
	blocks := newPair(t, of(20, 9), stock()...).blocks
	try := func(op api.Op) {
		t.Helper()
		m, _ := model.New(of(20, 9))
		for _, op := range stock() {
			m.Do(op)
		}
		x := &pair{t, of(20, 9), blocks, m}
		x.do(op)
	}
	ways := []string{"/", "/f", "/d", "/d/g", "/d/e", "/x", "/d/x", "/x/y", "/f/y", "/d/g/y", "/d/e/y", "/d/e/y/z", "", "f", "//", "/f/", "/.", "/..", "/d/..", "/a\x00", "/" + long(24), "/" + long(25), strings.Repeat("/a", 8), strings.Repeat("/a", 9), "/d/../" + long(25), "/" + long(25) + "/.."}
	for _, p := range ways {
		for _, op := range kinds(p) {
			try(op)
			for _, op.To = range ways {
				try(op)
			}
		}
	}
	numbers := append(odd(), 0, 1, 128, 299, 303, 1024, 1025, 533247, 533248, 533249)
	for _, p := range []string{"/", "/d/g", "/x", "/f/y", ""} {
		for _, n := range numbers {
			try(cut(p, n))
			for _, at := range numbers {
				try(read(p, at, n))
			}
			for _, length := range []int{0, 1, 2, 1023, 1024, 1025} {
				try(write(p, n, long(length)))
			}
		}
	}
}

// 17.2: where blocks or inodes are wanting, nothing is changed; what is let go can be had again.
func TestNoSpace(t *testing.T) {
	x := newPair(t, of(4, 9), create("/a"), create("/b"), create("/c"), create("/d"))
	x.all(api.OK, write("/a", 0, long(384)))
	x.all(api.NoSpace, write("/b", 0, "x"), create("/e"), mkdir("/e"), link("/a", "/e"), write("/a", 383, "xy"), write("/a", 128*6, "x"))
	x.all(api.OK, rename("/a", "/e"), rename("/e", "/a"), write("/a", 100, long(284)), cut("/a", 533248))
	x.all(api.NoSpace, write("/a", 384, "x"))
	x.all(api.OK, cut("/a", 256), mkdir("/e"), unlink("/a"))
	x.all(api.OK, rename("/b", "/e/b"), write("/c", 0, "x"))
	x.all(api.NoSpace, write("/c", 128, "x"))
	x.all(api.OK, unlink("/e/b"), rmdir("/e"), write("/c", 128, "x"))
	x.all(api.NoSpace, write("/c", 128*6, "x"))

	// Blocks that name are wanting as well.
	w := newPair(t, of(4, 9), create("/f"))
	w.all(api.NoSpace, write("/f", 128*70-1, "xy"), write("/f", 128*134-1, "xy"))
	w.all(api.OK, write("/f", 128*70, "x"))
	w.all(api.NoSpace, write("/f", 0, "x"), write("/f", 128*70+1, long(128)))
	w.all(api.OK, cut("/f", 128*70), write("/f", 128*68+1, long(127)), write("/f", 0, "x"))

	// A name that is to go into a directory without a block, while none is left.
	y := newPair(t, of(4, 9), mkdir("/d"), create("/f"), write("/f", 0, long(384)))
	y.all(api.NoSpace, rename("/f", "/d/f"), link("/f", "/d/f"), create("/d/f"))
	y.tells(stat("/f"), api.Result{Kind: api.KindFile, Links: 1, Size: 384})
	y.tells(list("/"), api.Result{Names: []string{"d", "f"}})
}

// 17.2: an inode that has no name any more is all 0, and the least one is taken again.
func TestFreed(t *testing.T) {
	x := newPair(t, of(16, 8), create("/a"), mkdir("/b"), create("/c"), link("/a", "/d"), write("/a", 0, "x"))
	x.all(api.OK, unlink("/a"))
	if x.blocks[22][32:34] != "\x01\x01" {
		t.Errorf("%q", x.blocks[22])
	}
	x.all(api.OK, rmdir("/b"), unlink("/d"))
	if x.blocks[22][32:96] != strings.Repeat("\x00", 64) || x.blocks[22][96] != 1 {
		t.Errorf("%q", x.blocks[22])
	}
	x.all(api.OK, mkdir("/e"), create("/f"))
	if x.blocks[22][32] != 2 || x.blocks[22][64] != 1 {
		t.Errorf("%q", x.blocks[22])
	}
}

// 17.2: a file has at most MaxLinks names; that is asked ahead of To.
func TestManyLinks(t *testing.T) {
	x := newPair(t, of(60, 8), create("/f"), mkdir("/d"))
	for i := 1; i < api.MaxLinks; i++ {
		x.all(api.OK, link("/f", "/d/"+strconv.Itoa(i)))
	}
	x.tells(stat("/d/99"), api.Result{Kind: api.KindFile, Links: 100})
	x.all(api.ManyLinks, link("/f", "/d/100"), link("/d/7", "/"), link("/d/7", "/d/8"), link("/f", "/x/y"))
	x.all(api.OK, unlink("/f"), link("/d/1", "/f"))
}
