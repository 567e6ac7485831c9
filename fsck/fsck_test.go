package fsck

import (
	"math"
	"slices"
	"strings"
	"testing"

	"cartulary/api"
	"cartulary/fs"
)

// source is a row of numbers that is the same in every run.
type source struct{ x uint32 }

func (s *source) next(n int) int {
	s.x = s.x*1664525 + 1013904223
	return int(s.x>>8) % n
}

func zeros(n int) string { return strings.Repeat("\x00", n) }
func long(n int) string  { return strings.Repeat("n", n) }

func create(p string) api.Op     { return api.Op{Kind: api.OpCreate, Path: p} }
func mkdir(p string) api.Op      { return api.Op{Kind: api.OpMkdir, Path: p} }
func unlink(p string) api.Op     { return api.Op{Kind: api.OpUnlink, Path: p} }
func link(p, to string) api.Op   { return api.Op{Kind: api.OpLink, Path: p, To: to} }
func rename(p, to string) api.Op { return api.Op{Kind: api.OpRename, Path: p, To: to} }
func cut(p string, n int) api.Op { return api.Op{Kind: api.OpTruncate, Path: p, N: n} }

func write(p string, at int, data string) api.Op {
	return api.Op{Kind: api.OpWrite, Path: p, At: at, Data: data}
}

// eight is a shape whose bitmap is block 21, its table blocks 22 and 23 of eight inodes, and its data from block 24 on.
func eight() api.Shape { return api.Shape{Blocks: 60, Journal: 20, Inodes: 8} }

func blank(s api.Shape) []string {
	out := []string{}
	for range s.Blocks {
		out = append(out, zeros(api.BlockSize))
	}
	return out
}

func apply(blocks []string, l []api.Change) []string {
	out := slices.Clone(blocks)
	for _, c := range l {
		out[c.Block] = c.Data
	}
	return out
}

// made are a file system's blocks behind operations that all go well; what the superblock and the journal hold is nothing of a file system.
func made(t *testing.T, s api.Shape, ops ...api.Op) []string {
	t.Helper()
	l, e := fs.Format(s)
	if e != api.OK {
		t.Fatalf("Format(%v): %v", s, e)
	}
	blocks := apply(blank(s), l)
	for b := range 1 + s.Journal {
		blocks[b] = long(api.BlockSize)
	}
	for _, op := range ops {
		r, c, e := fs.Do(s, blocks, op)
		if r.E != api.OK || e != api.OK {
			t.Fatalf("%+v: %+v, %v", op, r, e)
		}
		blocks = apply(blocks, c)
	}
	return blocks
}

// put are the blocks with other bytes from a place of one on.
func put(blocks []string, b, at int, bytes string) []string {
	text := blocks[b]
	return apply(blocks, []api.Change{{Block: b, Data: text[:at] + bytes + text[at+len(bytes):]}})
}

// bit are the blocks with another bit of the bitmap.
func bit(blocks []string, b int) []string {
	return put(blocks, 21, b/8, string([]byte{blocks[21][b/8] ^ 1<<(b%8)}))
}

// number is a block's, as it is named.
func number(b int) string { return string([]byte{byte(b), byte(b >> 8)}) }

// checkRule asks for the first rule that does not hold (0: all do); then there is a tree or none.
func checkRule(t *testing.T, s api.Shape, blocks []string, want int, what string) {
	t.Helper()
	wantE := api.OK
	if want > 0 {
		wantE = api.ErrTree
	}
	given := slices.Clone(blocks)
	if rule, e := Check(s, blocks); rule != want || e != wantE {
		t.Errorf("%s: rule %d, %v, want %d", what, rule, e, want)
	}
	if tree, e := Tree(s, blocks); e != wantE || (len(tree) == 0) != (want > 0) {
		t.Errorf("%s: %v, %v", what, tree, e)
	}
	if !slices.Equal(given, blocks) {
		t.Errorf("%s: the blocks are changed", what)
	}
}

// 18.1, 18.2, R1: a shape that is none comes first, then blocks, then what does not hold.
func TestFirst(t *testing.T) {
	s := eight()
	good, bad := made(t, s), blank(s)
	check := func(s api.Shape, blocks []string, want api.Errno) {
		t.Helper()
		if rule, e := Check(s, blocks); rule != 0 || e != want {
			t.Errorf("Check(%v, %d blocks): %d, %v, want %v", s, len(blocks), rule, e, want)
		}
		if tree, e := Tree(s, blocks); len(tree) != 0 || e != want {
			t.Errorf("Tree(%v, %d blocks): %v, %v, want %v", s, len(blocks), tree, e, want)
		}
	}
	for _, w := range []api.Shape{
		{}, {Blocks: 60, Journal: 19, Inodes: 8}, {Blocks: 60, Journal: 8, Inodes: 8}, {Blocks: 26, Journal: 20, Inodes: 4}, {Blocks: 1025, Journal: 20, Inodes: 8}, {Blocks: 1024, Journal: 257, Inodes: 8},
		{Blocks: 60, Journal: 20}, {Blocks: 60, Journal: 20, Inodes: 65}, {Blocks: -1, Journal: -1, Inodes: -1}, {Blocks: math.MaxInt, Journal: math.MaxInt, Inodes: math.MaxInt}, {Blocks: math.MinInt, Journal: 20, Inodes: 8},
	} {
		for _, blocks := range [][]string{good, bad, nil} {
			check(w, blocks, api.ErrShape)
		}
	}
	for _, wrong := range []string{"", long(127), long(129)} {
		for _, at := range []int{0, 20, 21, 59} {
			for _, blocks := range [][]string{good, bad} {
				check(s, apply(blocks, []api.Change{{Block: at, Data: wrong}}), api.ErrForm)
			}
		}
	}
	for _, blocks := range [][]string{nil, {}, good[1:], append(slices.Clone(good), zeros(128)), bad[1:]} {
		check(s, blocks, api.ErrForm)
	}
	checkRule(t, s, bad, 1, "blocks of bytes 0")
}

// The chapter's example, and the least and the greatest shapes.
func TestNew(t *testing.T) {
	for _, s := range []api.Shape{eight(), {Blocks: 27, Journal: 20, Inodes: 1}, {Blocks: 42, Journal: 20, Inodes: 64}, {Blocks: 1024, Journal: 256, Inodes: 64}, {Blocks: 1024, Journal: 20, Inodes: 1}} {
		blocks := made(t, s)
		checkRule(t, s, blocks, 0, "new")
		tree, _ := Tree(s, blocks)
		checkTree(t, tree, File{Path: "/", Kind: api.KindDir, Links: 1})
		if s.Inodes > 1 {
			checkRule(t, s, put(blocks, s.Journal+2, 32, "\x01\x01"), 6, "a file that no slot names")
		}
	}
	// What stands in the table behind the last inode is none's.
	s := api.Shape{Blocks: 27, Journal: 20, Inodes: 1}
	checkRule(t, s, put(made(t, s), 22, 32, long(96)), 0, "bytes behind the last inode")
}

func sameFile(a, b File) bool {
	return a.Path == b.Path && a.Inode == b.Inode && a.Kind == b.Kind && a.Links == b.Links && a.Size == b.Size && slices.Equal(a.Blocks, b.Blocks) && a.Data == b.Data
}

func checkTree(t *testing.T, got []File, want ...File) {
	t.Helper()
	if !slices.EqualFunc(got, want, sameFile) {
		t.Errorf("%v, want %v", got, want)
	}
}

// stocked is a file system in which the rules can be broken. Its inodes: 1 /d, 2 /d/f (and /g), 3 /big, 4 /e.
//
// The root's slots stand in block 24: d, g, big, e; d's in block 25: f; e has none. f's one block, of index 1, is 26. big's blocks: 27 of index 0; 29 of index 6, named by Single's 28; 32 and 33 of indices 70 and 133, named by 31, and 35 of index 134, named by 34: Double's 30 names both.
func stocked(t *testing.T) []string {
	t.Helper()
	return made(t, eight(),
		mkdir("/d"), create("/d/f"), link("/d/f", "/g"), write("/d/f", 130, "hi"), create("/big"), mkdir("/e"),
		write("/big", 0, long(128)), write("/big", 128*6, "six"), write("/big", 128*70, "seventy"), write("/big", 128*133, "x"), write("/big", 128*134, "end"))
}

// Where inodes stand in block 22 (e's in block 23), and what stands where in them.
const (
	d, f, big = 32, 64, 96

	kind, links, size, direct, single, double, rest = 0, 1, 2, 6, 18, 20, 22
)

// broken is what is wrong in blocks.
type broken struct {
	what   string
	blocks []string
}

func checkBroken(t *testing.T, rule int, list []broken) {
	t.Helper()
	for _, b := range list {
		checkRule(t, eight(), b.blocks, rule, b.what)
	}
}

// 18.1, rule 1: inodes' bytes.
func TestRule1(t *testing.T) {
	b := stocked(t)
	checkBroken(t, 0, []broken{{"nothing", b}})
	checkBroken(t, 1, []broken{
		{"the root is a file", put(b, 22, kind, "\x01")},
		{"the root is free", put(b, 22, 0, zeros(32))},
		{"the root is of no kind", put(b, 22, kind, "\x03")},
		{"the root has two links", put(b, 22, links, "\x02")},
		{"a directory has two links", put(b, 22, d+links, "\x02")},
		{"a file has no links", put(b, 22, f+links, "\x00")},
		{"a file has 101 links", put(b, 22, f+links, "\x65")},
		{"an inode is of no kind", put(b, 22, big+kind, "\x03")},
		{"a file is too large", put(b, 22, big+size, "\x01\x23\x08\x00")},
		{"a number is 1024", put(b, 22, f+direct, "\x00\x04")},
		{"Single is 65535", put(b, 22, big+single, "\xff\xff")},
		{"Double is 1024", put(b, 22, big+double, "\x00\x04")},
		{"a byte behind an inode's numbers", put(b, 22, f+rest, "\x01")},
		{"the last byte of an inode", put(b, 22, f+31, "\x01")},
		{"a free inode has links", put(b, 23, 32+links, "\x01")},
		{"the last inode is none", put(b, 23, 96+kind, "\x04")},
	})
}

// 18.1, rule 2: which blocks are named.
func TestRule2(t *testing.T) {
	b := stocked(t)
	checkBroken(t, 2, []broken{
		{"the superblock's neighbour", put(b, 22, f+direct, number(1))},
		{"the bitmap", put(b, 22, f+direct, number(21))},
		{"the last table block", put(b, 22, f+direct, number(23))},
		{"a block beyond the last", put(b, 22, f+direct, number(60))},
		{"the last number of Direct", put(b, 22, f+direct+10, number(1023))},
		{"Single's is none", put(b, 22, f+single, number(60))},
		{"Double's is none", put(b, 22, f+double, number(23))},
		{"in Single's block: the last number", put(b, 28, 126, number(60))},
		{"in Single's block: 65535", put(b, 28, 2, number(65535))},
		{"in Double's block", put(b, 30, 126, number(20))},
		{"in a block that Double's names", put(b, 31, 2, number(256+24))},
		{"in the last block that Double's names", put(b, 34, 126, number(60))},

		{"twice in one inode", put(b, 22, f+direct+4, number(26))},
		{"twice in two inodes", put(b, 22, f+direct, number(24))},
		{"a block that names, as a block", put(b, 22, f+direct, number(28))},
		{"a block, as one that names", put(b, 22, f+single, number(27))},
		{"one Single of two", put(b, 22, f+single, number(28))},
		{"one Double of two", put(b, 22, f+double, number(30))},
		{"twice in Single's block", put(b, 28, 126, number(29))},
		{"Single's block in itself", put(b, 28, 2, number(28))},
		{"Double's block in itself", put(b, 30, 4, number(30))},
		{"one block of names twice", put(b, 30, 126, number(34))},
		{"in two blocks that Double's names", put(b, 34, 2, number(32))},
		{"Double's block in one that it names", put(b, 34, 126, number(30))},
		{"by a free directory's neighbour", put(b, 23, direct, number(35))},

		{"Single's block names none", put(b, 28, 0, zeros(2))},
		{"Double's block names none", put(b, 30, 0, zeros(4))},
		{"a block that Double's names names none", put(b, 34, 0, zeros(2))},
		{"a Single of bytes 0", put(b, 22, f+single, number(40))},
		{"a Double of bytes 0", put(b, 22, f+double, number(40))},
		{"one more block in Double's, of bytes 0", put(b, 30, 126, number(40))},
	})
}

// 18.1, rule 3: the bitmap, from its first bit to its last.
func TestRule3(t *testing.T) {
	b := stocked(t)
	list := []broken{
		{"another block is named", put(b, 22, f+direct+2, number(40))},
		{"one more", put(b, 22, f+direct, number(59))},
		{"one more in Single's block", put(b, 28, 126, number(40))},
		{"one fewer", put(b, 22, f+direct+2, number(0))},
		{"one fewer in a block that Double's names", put(b, 31, 0, number(0))},
		{"Single is none", put(b, 22, big+single, number(0))},
		{"Double is none", put(b, 22, big+double, number(0))},
		{"all bits", put(b, 21, 0, strings.Repeat("\xff", 128))},
		{"no bits", put(b, 21, 0, zeros(128))},
	}
	for i := range 1024 {
		list = append(list, broken{"bit", bit(b, i)})
	}
	checkBroken(t, 3, list)
	// A block that is free may hold what it will.
	checkBroken(t, 0, []broken{{"a free block", put(b, 40, 0, long(128))}, {"the last one", put(b, 59, 0, long(128))}})
}

// 18.1, rule 4: what is behind Size.
func TestRule4(t *testing.T) {
	b := stocked(t)
	checkBroken(t, 0, []broken{
		{"a byte below Size", put(b, 26, 3, "x")},
		{"a file that is larger", put(b, 22, f+size, number(133))},
		{"the greatest file", put(b, 22, f+size, "\x00\x23\x08\x00")},
		{"a file that is smaller by bytes 0 alone", put(put(b, 26, 3, "\x00"), 22, f+size, number(131))},
		{"a file up to a block's end", put(put(b, 26, 4, long(124)), 22, f+size, number(256))},
	})
	checkBroken(t, 4, []broken{
		{"a byte at Size", put(b, 26, 4, "x")},
		{"the last byte of the last block", put(b, 26, 127, "x")},
		{"Size is less by one", put(b, 22, f+size, number(131))},
		{"Size is where the block begins", put(b, 22, f+size, number(128))},
		{"Size is below the block", put(b, 22, f+size, number(127))},
		{"Size is 0", put(b, 22, f+size, number(0))},
		{"a block behind Size, of bytes 0", bit(put(b, 22, f+direct+4, number(40)), 40)},
		{"the last index behind Size, of bytes 0", bit(put(b, 34, 126, number(40)), 40)},
		{"the last block of Double's", put(b, 35, 3, "x")},
		{"a directory's slots", put(b, 22, size, number(96))},
		{"half a slot of a directory", put(b, 22, size, number(97))},
		{"a byte behind the last slot", put(b, 25, 32, "x")},
		{"a directory without Size", put(b, 22, d+size, number(0))},
		{"one more block of an empty directory", bit(put(b, 23, direct, number(40)), 40)},
	})
	// Below Size an index may have no block.
	checkBroken(t, 0, []broken{{"a hole", bit(put(b, 22, big+direct, number(0)), 27)}})
}

// 18.1, rule 5: directories' slots.
func TestRule5(t *testing.T) {
	b := stocked(t)
	slot := func(at int, bytes string) []string { return put(b, 24, at, bytes+zeros(32-len(bytes))) }
	list := []broken{
		{"Size is not a multiple", put(b, 22, d+size, number(33))},
		{"Size is not a multiple, below the slot", put(put(b, 22, d+size, number(31)), 25, 0, "\x02\x00\x01f")},
		{"Size has half a slot", put(b, 22, d+size, number(16))},
		{"Size has a slot and a half", put(b, 22, d+size, number(48))},
		{"no block", put(b, 23, size, number(32))},
		{"no block of the last index", put(b, 22, size, number(160))},
		{"no block of the first index", bit(bit(put(put(b, 22, direct, number(0)+number(40)), 22, size, number(160)), 24), 40)},
		{"the greatest Size", put(b, 23, size, "\x00\x23\x08\x00")},
		{"a free slot with a length", slot(0, "\x00\x00\x01")},
		{"a free slot with a name", slot(0, "\x00\x00\x01d")},
		{"a free slot with its last byte", slot(0, zeros(31)+"\x01")},
		{"a number that is no inode's", slot(0, "\x08\x00\x01d")},
		{"a number of 64", slot(0, "\x40\x00\x01d")},
		{"a number of two bytes", slot(0, "\x01\x01\x01d")},
		{"the number 65535", slot(0, "\xff\xff\x01d")},
		{"a name of no bytes", slot(0, "\x01")},
		{"a name of 25 bytes", slot(0, "\x01\x00\x19"+long(25))},
		{"a name of 29 bytes", slot(0, "\x01\x00\x1d"+long(29))},
		{"a name of 30 bytes", slot(0, "\x01\x00\x1e"+long(29))},
		{"a name of 255 bytes", slot(0, "\x01\x00\xff"+long(29))},
		{"the name .", slot(0, "\x01\x00\x01.")},
		{"the name ..", slot(0, "\x01\x00\x02..")},
		{"a name with /", slot(0, "\x01\x00\x03a/b")},
		{"a name with a byte 0", slot(0, "\x01\x00\x03a\x00b")},
		{"a name that ends with a byte 0", slot(0, "\x01\x00\x02d")},
		{"a byte behind the name", slot(0, "\x01\x00\x01dd")},
		{"a byte behind 24 bytes of a name", slot(0, "\x01\x00\x18"+long(24)+"x")},
		{"the last byte of a slot", slot(0, "\x01\x00\x01d"+zeros(27)+"x")},
		{"a name twice", slot(0, "\x01\x00\x01g")},
		{"a name twice, of slots that are not neighbours", slot(96, "\x04\x00\x01d")},
		{"the last slot", slot(96, "\x09\x00\x01e")},
		{"another directory's slot", put(b, 25, 3, "/")},
	}
	checkBroken(t, 5, list)
	checkBroken(t, 0, []broken{
		{"a name of 24 bytes", slot(0, "\x01\x00\x18"+long(24))},
		{"a name of 24 bytes of any kind", slot(0, "\x01\x00\x18"+strings.Repeat("\xff\x80", 12))},
		{"the name ...", slot(0, "\x01\x00\x03...")},
		{"one name in two directories", put(b, 25, 3, "g")},
		{"a name that another one begins with", slot(0, "\x01\x00\x02gg")},
	})
	free := made(t, eight(), create("/a"), create("/b"), unlink("/a"))
	checkBroken(t, 0, []broken{{"a free slot", free}})
	checkBroken(t, 5, []broken{{"a free slot that is not all 0", put(free, 24, 31, "\x01")}})
}

// 18.1, rule 6: names and links.
func TestRule6(t *testing.T) {
	b := stocked(t)
	deep := made(t, eight(), mkdir("/a"), mkdir("/a/b"), mkdir("/a/b/c"), create("/a/b/c/f"))
	checkBroken(t, 6, []broken{
		{"a link too few", put(b, 22, f+links, "\x01")},
		{"a link too many", put(b, 22, f+links, "\x03")},
		{"a file without a name", put(b, 23, 32, "\x01\x01")},
		{"a directory without a name", put(b, 23, 96, "\x02\x01")},
		{"a slot names a free one", put(b, 24, 0, "\x05")},
		{"the last inode is free", put(b, 24, 96, "\x07")},
		{"a slot is free", put(b, 24, 0, zeros(32))},
		{"a directory has two names", put(b, 25, 0, "\x04")},
		{"a directory is in itself too", put(b, 25, 0, "\x01")},
		{"two slots have changed what they name", put(b, 24, 0, "\x02")},

		// As many slots as links, but not from the root.
		{"a directory is in itself", put(put(deep, 24, 0, zeros(32)), 25, 0, "\x01")},
		{"three directories are in one another", put(put(deep, 24, 0, zeros(32)), 27, 0, "\x01\x00\x01a")},
		{"two of three are in one another", put(put(deep, 25, 0, "\x04\x00\x01f"), 27, 0, "\x02\x00\x01b")},
	})
	checkBroken(t, 0, []broken{
		{"nothing", deep},
		{"two names changed", put(put(b, 24, 0, "\x04"), 24, 96, "\x01")},
	})
}

// 18.1: the first rule that does not hold is told, whatever does not hold behind it.
func TestFirstRule(t *testing.T) {
	b := stocked(t)
	breaks := []func([]string) []string{
		func(b []string) []string { return put(b, 23, 96+kind, "\x04") },
		func(b []string) []string { return put(b, 22, big+direct+2, number(26)) },
		func(b []string) []string { return bit(b, 50) },
		func(b []string) []string { return put(b, 26, 100, "x") },
		func(b []string) []string { return put(b, 25, 31, "x") },
		func(b []string) []string { return put(b, 22, f+links, "\x05") },
	}
	for set := range 1 << len(breaks) {
		blocks, want := b, 0
		for i := len(breaks) - 1; i >= 0; i-- {
			if set>>i&1 == 1 {
				blocks, want = breaks[i](blocks), i+1
			}
		}
		checkRule(t, eight(), blocks, want, "some of all")
	}
}

// 18.2: the tree, each path once; a directory's blocks without their bytes, a file's with them.
func TestTree(t *testing.T) {
	tree, e := Tree(eight(), stocked(t))
	if e != api.OK {
		t.Fatal(e)
	}
	pad := func(text string) string { return text + zeros(api.BlockSize-len(text)) }
	file := File{Inode: 2, Kind: api.KindFile, Links: 2, Size: 132, Blocks: []int{1}, Data: pad("\x00\x00hi")}
	at := func(f File, p string) File { f.Path = p; return f }
	checkTree(t, tree,
		File{Path: "/", Kind: api.KindDir, Links: 1, Size: 128, Blocks: []int{0}},
		File{Path: "/big", Inode: 3, Kind: api.KindFile, Links: 1, Size: 128*134 + 3, Blocks: []int{0, 6, 70, 133, 134}, Data: long(128) + pad("six") + pad("seventy") + pad("x") + pad("end")},
		File{Path: "/d", Inode: 1, Kind: api.KindDir, Links: 1, Size: 32, Blocks: []int{0}},
		at(file, "/d/f"),
		File{Path: "/e", Inode: 4, Kind: api.KindDir, Links: 1},
		at(file, "/g"),
	)
}

func paths(tree []File) []string {
	out := []string{}
	for _, f := range tree {
		out = append(out, f.Path)
	}
	return out
}

// 18.2: the order is that of the names, not of the paths' bytes, nor of the slots.
func TestOrder(t *testing.T) {
	s := api.Shape{Blocks: 80, Journal: 20, Inodes: 20}
	blocks := made(t, s, mkdir("/b"), mkdir("/a"), create("/a!"), create("/\xff"), create("/a/z"), create("/a/b"), mkdir("/a/c"), create("/a/c/x"), create("/ab"), create("/B"), create("/b/\x01"))
	tree, e := Tree(s, blocks)
	want := []string{"/", "/B", "/a", "/a/b", "/a/c", "/a/c/x", "/a/z", "/a!", "/ab", "/b", "/b/\x01", "/\xff"}
	if e != api.OK || !slices.Equal(paths(tree), want) {
		t.Errorf("%q, %v", paths(tree), e)
	}
}

// 18.2: by renames paths may have more than MaxDepth names: as many as there are inodes.
func TestDeep(t *testing.T) {
	s := api.Shape{Blocks: 200, Journal: 20, Inodes: 64}
	ops := []api.Op{mkdir("/a")}
	for range 62 {
		ops = append(ops, mkdir("/b"), rename("/a", "/b/a"), rename("/b", "/a"))
	}
	blocks := made(t, s, ops...)
	tree, e := Tree(s, blocks)
	if e != api.OK || len(tree) != 64 {
		t.Fatalf("%q, %v", paths(tree), e)
	}
	for n, f := range tree[1:] {
		if want := strings.Repeat("/a", n+1); f.Path != want {
			t.Errorf("%q, want %q", f.Path, want)
		}
	}
}

// R3: no two lists of an answer share memory, nor do two answers.
func TestMemory(t *testing.T) {
	s := eight()
	room := append(made(t, s, create("/f"), link("/f", "/g"), write("/f", 0, long(300))), "spare")
	tree, _ := Tree(s, room[:s.Blocks])
	for i := range tree {
		own := tree[i].Blocks
		for k := range own[:cap(own)] {
			own[:cap(own)][k] = 100 + i
		}
	}
	for i, f := range tree {
		for _, b := range f.Blocks {
			if b != 100+i {
				t.Errorf("%q: %v", f.Path, f.Blocks)
			}
		}
	}
	if again, _ := Tree(s, room[:s.Blocks]); !slices.Equal(again[1].Blocks, []int{0, 1, 2}) || !slices.Equal(again[2].Blocks, []int{0, 1, 2}) || room[s.Blocks] != "spare" {
		t.Errorf("%v", again)
	}
}
