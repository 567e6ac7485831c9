package model

import (
	"math"
	"slices"
	"strconv"
	"strings"
	"testing"

	"cartulary/api"
	"cartulary/path"
)

// source is a row of numbers that is the same in every run.
type source struct{ x uint32 }

func (s *source) next(n int) int {
	s.x = s.x*1664525 + 1013904223
	return int(s.x>>8) % n
}

// odd are numbers at which sums wrap round, or which look small once their high bits are cut.
func odd() []int {
	return []int{math.MinInt, math.MinInt + 1, -1 << 32, -128, -1, 1 << 32, 1<<32 + 1, math.MaxInt - 1024, math.MaxInt - 1, math.MaxInt}
}

// of is a shape with so many data blocks and inodes.
func of(data, inodes int) api.Shape {
	return api.Shape{Blocks: 22 + (inodes+3)/4 + data, Journal: 20, Inodes: inodes}
}

func long(n int) string { return strings.Repeat("n", n) }

// fresh is a new model, with what some operations did that all go well.
func fresh(t *testing.T, s api.Shape, ops ...api.Op) *Model {
	t.Helper()
	m, e := New(s)
	if m == nil || e != api.OK {
		t.Fatalf("New(%v): %v", s, e)
	}
	for _, op := range ops {
		check(t, m, op, api.Result{})
	}
	return m
}

func create(p string) api.Op        { return api.Op{Kind: api.OpCreate, Path: p} }
func mkdir(p string) api.Op         { return api.Op{Kind: api.OpMkdir, Path: p} }
func stat(p string) api.Op          { return api.Op{Kind: api.OpStat, Path: p} }
func list(p string) api.Op          { return api.Op{Kind: api.OpList, Path: p} }
func unlink(p string) api.Op        { return api.Op{Kind: api.OpUnlink, Path: p} }
func rmdir(p string) api.Op         { return api.Op{Kind: api.OpRmdir, Path: p} }
func link(p, to string) api.Op      { return api.Op{Kind: api.OpLink, Path: p, To: to} }
func rename(p, to string) api.Op    { return api.Op{Kind: api.OpRename, Path: p, To: to} }
func cut(p string, n int) api.Op    { return api.Op{Kind: api.OpTruncate, Path: p, N: n} }
func failed(e api.Errno) api.Result { return api.Result{E: e} }

func write(p string, at int, data string) api.Op {
	return api.Op{Kind: api.OpWrite, Path: p, At: at, Data: data}
}

func read(p string, at, n int) api.Op {
	return api.Op{Kind: api.OpRead, Path: p, At: at, N: n}
}

func same(a, b api.Result) bool {
	return a.E == b.E && a.Data == b.Data && a.Kind == b.Kind && a.Links == b.Links && a.Size == b.Size && slices.Equal(a.Names, b.Names)
}

func sameTree(a, b []File) bool {
	return slices.EqualFunc(a, b, func(x, y File) bool {
		return x.Path == y.Path && x.Inode == y.Inode && x.Kind == y.Kind && x.Links == y.Links && x.Size == y.Size && slices.Equal(x.Blocks, y.Blocks) && x.Data == y.Data
	})
}

// check holds an answer against what is asked for; one that tells an error, and one of a read, changes nothing (14.3).
func check(t *testing.T, m *Model, op api.Op, want api.Result) {
	t.Helper()
	tree := m.Tree()
	blocks, inodes := m.Used()
	if r := m.Do(op); !same(r, want) {
		t.Errorf("%+v: %+v, want %+v", op, r, want)
	}
	if want.E == api.OK && op.Kind != api.OpRead && op.Kind != api.OpStat && op.Kind != api.OpList {
		return
	}
	if b, i := m.Used(); b != blocks || i != inodes || !sameTree(m.Tree(), tree) {
		t.Errorf("%+v: it changed %v to %v", op, tree, m.Tree())
	}
}

// checkE is check of operations that all answer nothing but E.
func checkE(t *testing.T, m *Model, want api.Errno, ops ...api.Op) {
	t.Helper()
	for _, op := range ops {
		check(t, m, op, failed(want))
	}
}

func checkUsed(t *testing.T, m *Model, blocks, inodes int) {
	t.Helper()
	if b, i := m.Used(); b != blocks || i != inodes {
		t.Errorf("Used: %d, %d, want %d, %d", b, i, blocks, inodes)
	}
}

func checkTree(t *testing.T, m *Model, want ...File) {
	t.Helper()
	if got := m.Tree(); !sameTree(got, want) {
		t.Errorf("Tree:\n%v, want\n%v", got, want)
	}
}

// 14.1: which shapes there is a model of; its root is empty.
func TestNew(t *testing.T) {
	for _, s := range []api.Shape{{Blocks: 16, Journal: 8, Inodes: 1}, {Blocks: 16, Journal: 8, Inodes: 8}, {Blocks: 1024, Journal: 256, Inodes: 64}, {Blocks: 64, Journal: 16, Inodes: 10}} {
		m := fresh(t, s)
		checkTree(t, m, File{Path: "/", Kind: api.KindDir, Links: 1})
		checkUsed(t, m, 0, 1)
		check(t, m, stat("/"), api.Result{Kind: api.KindDir, Links: 1})
		check(t, m, list("/"), api.Result{})
	}
	for _, s := range []api.Shape{{}, {Blocks: 15, Journal: 8, Inodes: 1}, {Blocks: 1025, Journal: 8, Inodes: 1}, {Blocks: 64, Journal: 7, Inodes: 1}, {Blocks: 1024, Journal: 257, Inodes: 1}, {Blocks: 64, Journal: 8}, {Blocks: 64, Journal: 8, Inodes: 65}, {Blocks: 16, Journal: 8, Inodes: 13}, {Blocks: -1, Journal: -1, Inodes: -1}, {Blocks: 64, Journal: 8, Inodes: math.MaxInt}} {
		if m, e := New(s); m != nil || e != api.ErrShape {
			t.Errorf("New(%v): %v, %v", s, m, e)
		}
	}
}

// 14.1 and R6: a nil model, whatever the operation is; so is one that New did not make.
func TestNil(t *testing.T) {
	for _, m := range []*Model{nil, {}} {
		for kind := -1; kind < 13; kind++ {
			for _, p := range []string{"/", "/a", "", "a//"} {
				if r := m.Do(api.Op{Kind: kind, Path: p, To: p, At: -1}); !same(r, failed(api.ErrState)) {
					t.Errorf("Do(%d): %v", kind, r)
				}
			}
		}
		if l := m.Tree(); len(l) != 0 {
			t.Errorf("Tree: %v", l)
		}
		checkUsed(t, m, 0, 0)
	}
}

// The chapter's example.
func TestExample(t *testing.T) {
	m := fresh(t, of(20, 8), mkdir("/a"), create("/a/b"), write("/a/b", 200, "xy"))
	check(t, m, read("/a/b", 199, 9), api.Result{Data: "\x00xy"})
	check(t, m, stat("/a/b"), api.Result{Kind: api.KindFile, Links: 1, Size: 202})
	checkTree(t, m,
		File{Path: "/", Kind: 2, Links: 1, Size: 32, Blocks: []int{0}},
		File{Path: "/a", Inode: 1, Kind: 2, Links: 1, Size: 32, Blocks: []int{0}},
		File{Path: "/a/b", Inode: 2, Kind: 1, Links: 1, Size: 202, Blocks: []int{1}, Data: strings.Repeat("\x00", 72) + "xy" + strings.Repeat("\x00", 54)})
	checkUsed(t, m, 3, 3)
}

// stocked has a file, an empty directory, and one with a file in it.
func stocked(t *testing.T) *Model {
	return fresh(t, of(40, 10), create("/f"), write("/f", 0, "abc"), mkdir("/e"), mkdir("/d"), create("/d/g"), mkdir("/d/h"))
}

// Kinds that are none come ahead of all.
func TestKinds(t *testing.T) {
	m := stocked(t)
	for _, kind := range append(odd(), 0, 12, 13, 255, 256+1) {
		for _, p := range []string{"/", "/f", "", "/" + long(25), "/none"} {
			checkE(t, m, api.Invalid, api.Op{Kind: kind, Path: p, To: p, At: -1, N: -1})
		}
	}
}

// What is wrong with Path, then with To, comes ahead of all else; To is looked at in OpLink and OpRename alone.
func TestPaths(t *testing.T) {
	m := stocked(t)
	for kind := 1; kind <= 11; kind++ {
		for p, want := range map[string]api.Errno{"": api.Invalid, "f": api.Invalid, "/f/": api.Invalid, "//": api.Invalid, "/.": api.Invalid, "/" + long(25): api.LongName, "/none/" + long(25): api.LongName, "/f/" + long(25): api.LongName, strings.Repeat("/d", 9): api.LongName, "/none//": api.Invalid} {
			for _, to := range []string{"", "/x", "/" + long(25)} {
				checkE(t, m, want, api.Op{Kind: kind, Path: p, To: to, At: -1, N: -1, Data: long(2000)})
			}
		}
	}
	for _, to := range []string{"", "x", "/x/", "/" + long(25)} {
		want := api.Invalid
		if len(to) > 25 {
			want = api.LongName
		}
		for _, p := range []string{"/", "/f", "/d", "/none", "/f/x", "/d/none/x"} {
			checkE(t, m, want, link(p, to), rename(p, to))
		}
	}
	for _, op := range []api.Op{stat("/f"), list("/d"), read("/f", 0, 3), create("/n"), mkdir("/m"), write("/n", 0, "x"), cut("/n", 0), unlink("/n"), rmdir("/m")} {
		op.To = "no path"
		if r := m.Do(op); r.E != api.OK {
			t.Errorf("%+v: %v", op, r.E)
		}
	}
}

// Every operation finds its path name by name.
func TestFind(t *testing.T) {
	m := stocked(t)
	for kind := 1; kind <= 11; kind++ {
		op := func(p string) api.Op { return api.Op{Kind: kind, Path: p, To: "/x", Data: "x"} }
		checkE(t, m, api.NotDir, op("/f/x"), op("/f/x/y"), op("/d/g/x"), op("/d/g/x/y/z"))
		checkE(t, m, api.NoEntry, op("/none/x"), op("/d/none/x"), op("/e/none/f/g"))
		if kind > 2 {
			checkE(t, m, api.NoEntry, op("/none"), op("/e/none"), op("/d/f"))
		}
	}
}

// OpCreate and OpMkdir: their errors in their order, the least free inode, and the names that are put.
func TestAdd(t *testing.T) {
	for kind := 1; kind <= 2; kind++ {
		m := stocked(t)
		op := func(p string) api.Op { return api.Op{Kind: kind, Path: p, At: -1, N: -1, Data: long(2000)} }
		checkE(t, m, api.Exists, op("/"), op("/f"), op("/e"), op("/d"), op("/d/g"), op("/d/h"))
		check(t, m, op("/d/h/"+long(24)), api.Result{})
		check(t, m, stat("/d/h/"+long(24)), api.Result{Kind: kind, Links: 1})
		check(t, m, op("/..."), api.Result{})
		check(t, m, list("/"), api.Result{Names: []string{"...", "d", "e", "f"}})
		check(t, m, unlink("/f"), api.Result{})
		check(t, m, op("/z"), api.Result{})
		if tree := m.Tree(); tree[len(tree)-1].Path != "/z" || tree[len(tree)-1].Inode != 1 || tree[len(tree)-1].Kind != kind || tree[len(tree)-1].Size != 0 || len(tree[len(tree)-1].Blocks) != 0 {
			t.Errorf("%v", tree)
		}
		check(t, m, read("/z", 0, 9), map[int]api.Result{1: {}, 2: failed(api.IsDir)}[kind])
		deep := ""
		for range 8 {
			check(t, fresh(t, of(40, 10), chain(len(deep)/2)...), op(deep+"/q"), api.Result{})
			deep += "/q"
		}
	}
}

// chain makes so many directories, one in the other.
func chain(n int) []api.Op {
	out := []api.Op{}
	for i := range n {
		out = append(out, mkdir(strings.Repeat("/q", i+1)))
	}
	return out
}

// No inode that is free, and no block for a slot, are NoSpace behind all other errors.
func TestAddNoSpace(t *testing.T) {
	for _, inodes := range []int{1, 2, 3, 64} {
		m := fresh(t, of(40, inodes))
		for i := 1; i < inodes; i++ {
			check(t, m, api.Op{Kind: 1 + i%2, Path: "/" + strconv.Itoa(i)}, api.Result{})
		}
		checkE(t, m, api.NoSpace, create("/x"), mkdir("/x"))
		checkE(t, m, api.Exists, create("/"), mkdir("/"))
		checkE(t, m, api.NoEntry, create("/x/y"), mkdir("/x/y"))
		if inodes > 2 {
			checkE(t, m, api.Exists, create("/1"), mkdir("/2"))
			checkE(t, m, api.NotDir, create("/2/x"), mkdir("/2/x/y"))
			checkE(t, m, api.NoSpace, create("/1/x"), mkdir("/1/x"))
			check(t, m, rmdir("/1"), api.Result{})
			check(t, m, create("/x"), api.Result{})
		}
	}
	// The four data blocks are all there, but a slot is left in the root's.
	m := fresh(t, of(4, 8), create("/f"), mkdir("/d"), create("/g"), write("/f", 0, long(384)))
	checkUsed(t, m, 4, 4)
	checkE(t, m, api.NoSpace, create("/d/x"), mkdir("/d/x"), link("/f", "/d/x"), rename("/f", "/d/x"))
	checkE(t, m, api.Exists, create("/d"))
	check(t, m, create("/h"), api.Result{})
	checkE(t, m, api.NoSpace, create("/i"), mkdir("/i"), link("/f", "/i"))
	check(t, m, cut("/f", 256), api.Result{})
	check(t, m, create("/d/x"), api.Result{})
	checkE(t, m, api.NoSpace, create("/i"))
	check(t, m, create("/d/y"), api.Result{})
}

// A directory's seventh block wants one more that names it.
func TestSlots(t *testing.T) {
	for room := 6; room <= 9; room++ {
		m := fresh(t, of(room, 64))
		made := 0
		for i := range 63 {
			if m.Do(create("/"+strconv.Itoa(i))).E != api.OK {
				break
			}
			made++
		}
		slots := map[int]int{6: 24, 7: 24, 8: 28, 9: 32}[room]
		if made != slots {
			t.Errorf("%d blocks have %d slots, want %d", room, made, slots)
		}
		check(t, m, stat("/"), api.Result{Kind: 2, Links: 1, Size: 32 * slots})
		checkE(t, m, api.NoSpace, create("/x"), mkdir("/x"), link("/0", "/x"))
		// What is taken away leaves its slot, and no block.
		for _, i := range []string{"/20", "/3", "/11"} {
			check(t, m, unlink(i), api.Result{})
		}
		check(t, m, stat("/"), api.Result{Kind: 2, Links: 1, Size: 32 * slots})
		checkUsed(t, m, map[int]int{6: 6, 7: 6, 8: 8, 9: 9}[room], 1+slots-3)
		for _, op := range []api.Op{mkdir("/x"), link("/0", "/y"), create("/z")} {
			check(t, m, op, api.Result{})
		}
		checkE(t, m, api.NoSpace, create("/w"))
		check(t, m, stat("/"), api.Result{Kind: 2, Links: 1, Size: 32 * slots})
	}
}

// OpWrite: its errors in their order.
func TestWriteErrors(t *testing.T) {
	m := stocked(t)
	for _, p := range []string{"/", "/f", "/d", "/none", "/f/x"} {
		for _, at := range []int{-1, math.MinInt} {
			checkE(t, m, api.Invalid, write(p, at, ""), write(p, at, "x"), write(p, at, long(1025)))
		}
		for _, at := range []int{0, 533248, math.MaxInt} {
			checkE(t, m, api.Invalid, write(p, at, long(1025)), write(p, at, long(5000)))
		}
	}
	checkE(t, m, api.IsDir, write("/", 0, "x"), write("/", math.MaxInt, "x"), write("/d", 0, ""), write("/e", 0, long(1024)))
	checkE(t, m, api.TooBig, write("/f", 533248, "x"), write("/f", 533247, "xy"), write("/f", 532225, long(1024)), write("/f", math.MaxInt, "x"), write("/f", math.MaxInt-1023, long(1024)), write("/f", math.MaxInt, long(1024)))
	// TooBig comes ahead of NoSpace.
	m = fresh(t, of(4, 4), create("/f"), write("/f", 0, long(384)))
	checkE(t, m, api.NoSpace, write("/f", 384, "x"), write("/f", 383, "xy"), write("/f", 533247, "x"))
	checkE(t, m, api.TooBig, write("/f", 533248, "x"))
	check(t, m, write("/f", 383, "x"), api.Result{})
	// Blocks ahead of one that is there count as those behind it.
	m = fresh(t, of(4, 4), create("/f"), write("/f", 640, "x"))
	checkE(t, m, api.NoSpace, write("/f", 0, long(257)), write("/f", 127, long(130)))
	check(t, m, write("/f", 0, long(256)), api.Result{})
	checkE(t, m, api.NoSpace, write("/f", 256, "x"), write("/f", 639, "xy"))
	checkUsed(t, m, 4, 2)
}

// OpWrite: nothing at all changes nothing, wherever it stands; without Data there is no TooBig.
func TestWriteNothing(t *testing.T) {
	m := stocked(t)
	tree := m.Tree()
	for _, at := range []int{0, 3, 500, 533248, 533249, math.MaxInt} {
		check(t, m, write("/f", at, ""), api.Result{})
		check(t, m, write("/d/g", at, ""), api.Result{})
	}
	if !sameTree(m.Tree(), tree) {
		t.Errorf("%v", m.Tree())
	}
}

// OpWrite: the blocks that Data touches are there, with their other bytes; Size is not less.
func TestWrite(t *testing.T) {
	m := fresh(t, of(40, 4), create("/f"), write("/f", 127, "ab"))
	zeros := func(n int) string { return strings.Repeat("\x00", n) }
	want := func(size int, blocks []int, data string) {
		t.Helper()
		f := m.Tree()[1]
		if f.Size != size || !slices.Equal(f.Blocks, blocks) || f.Data != data {
			t.Errorf("%v", f)
		}
	}
	want(129, []int{0, 1}, zeros(127)+"ab"+zeros(127))
	check(t, m, write("/f", 120, "cd"), api.Result{})
	want(129, []int{0, 1}, zeros(120)+"cd"+zeros(5)+"ab"+zeros(127))
	check(t, m, write("/f", 640, "e"), api.Result{})
	want(641, []int{0, 1, 5}, zeros(120)+"cd"+zeros(5)+"ab"+zeros(127)+"e"+zeros(127))
	check(t, m, read("/f", 119, 1024), api.Result{Data: "\x00cd" + zeros(5) + "ab" + zeros(511) + "e"})
	check(t, m, write("/f", 256, long(128)), api.Result{})
	want(641, []int{0, 1, 2, 5}, zeros(120)+"cd"+zeros(5)+"ab"+zeros(127)+long(128)+"e"+zeros(127))
	// A write of bytes 0 has its block be there.
	check(t, m, write("/f", 500, "\x00"), api.Result{})
	want(641, []int{0, 1, 2, 3, 5}, zeros(120)+"cd"+zeros(5)+"ab"+zeros(127)+long(128)+zeros(128)+"e"+zeros(127))
	// The most bytes that are allowed, up to the last one that is.
	check(t, m, write("/f", 532224, long(1024)), api.Result{})
	check(t, m, stat("/f"), api.Result{Kind: 1, Links: 1, Size: 533248})
	check(t, m, read("/f", 532223, 1024), api.Result{Data: "\x00" + long(1023)})
	check(t, m, read("/f", 533247, 1024), api.Result{Data: "n"})
	checkUsed(t, m, 1+5+8+2, 2)
}

// OpWrite: NoSpace just where blocks, with those that name them, are more than there are.
func TestWriteNoSpace(t *testing.T) {
	for _, c := range []struct{ at, bytes, blocks int }{
		{0, 1, 1}, {0, 128, 1}, {0, 129, 2}, {127, 2, 2}, {1, 128, 2}, {0, 768, 6}, {0, 769, 8}, {128 * 6, 1, 2}, {128*6 - 1, 2, 3}, {128 * 69, 1, 2}, {128 * 70, 1, 3}, {128*70 - 1, 2, 5}, {128 * 70, 129, 4}, {128*134 - 1, 2, 5}, {128 * 4165, 128, 3}, {100, 1024, 10}, {128 * 4158, 1024, 10},
	} {
		// Beside the root's own block there is one too few, just enough, or one more.
		for more := -1; more <= 1; more++ {
			room := 1 + c.blocks + more
			if room < 4 {
				continue
			}
			m := fresh(t, of(room, 4), create("/f"))
			op := write("/f", c.at, long(c.bytes))
			if more < 0 {
				checkE(t, m, api.NoSpace, op)
				checkUsed(t, m, 1, 2)
				continue
			}
			check(t, m, op, api.Result{})
			checkUsed(t, m, 1+c.blocks, 2)
			// The same blocks once more want none.
			check(t, m, op, api.Result{})
			check(t, m, read("/f", c.at, c.bytes), api.Result{Data: long(c.bytes)})
			check(t, m, unlink("/f"), api.Result{})
			checkUsed(t, m, 1, 1)
		}
	}
}

// OpTruncate: its errors in their order.
func TestTruncateErrors(t *testing.T) {
	m := stocked(t)
	for _, p := range []string{"/", "/f", "/d", "/none", "/f/x"} {
		checkE(t, m, api.Invalid, cut(p, -1), cut(p, math.MinInt))
		checkE(t, m, api.TooBig, cut(p, 533249), cut(p, math.MaxInt))
	}
	checkE(t, m, api.IsDir, cut("/", 0), cut("/d", 0), cut("/e", 533248))
	checkE(t, m, api.NoEntry, cut("/none", 0), cut("/none", 533248))
}

// OpTruncate, 14.2: at each edge of a block; what was cut away is 0, if the file grows again.
func TestTruncate(t *testing.T) {
	for _, n := range []int{0, 1, 127, 128, 129, 255, 256, 257, 383, 384, 385, 511, 512, 700, 533248} {
		m := fresh(t, of(40, 4), create("/f"), write("/f", 0, long(384)), cut("/f", n))
		left := min(n, 384)
		blocks := (left + 127) / 128
		data := long(left) + strings.Repeat("\x00", blocks*128-left)
		f := m.Tree()[1]
		if f.Size != n || len(f.Blocks) != blocks || f.Data != data {
			t.Errorf("cut to %d: %v", n, f)
		}
		checkUsed(t, m, 1+blocks, 2)
		check(t, m, read("/f", 0, 1024), api.Result{Data: (long(left) + strings.Repeat("\x00", 1024))[:min(n, 1024)]})
		check(t, m, cut("/f", 600), api.Result{})
		check(t, m, read("/f", 0, 1024), api.Result{Data: long(left) + strings.Repeat("\x00", 600-left)})
		checkUsed(t, m, 1+blocks, 2)
		check(t, m, cut("/f", 0), api.Result{})
		checkUsed(t, m, 1, 2)
	}
	// Blocks that name are there as long as they name one.
	m := fresh(t, of(40, 4), create("/f"), write("/f", 0, "x"), write("/f", 128*6, "x"), write("/f", 128*70, "x"), write("/f", 128*134, "x"))
	for _, c := range []struct{ n, blocks int }{{128*134 + 1, 8}, {128 * 134, 6}, {128*70 + 1, 6}, {128 * 70, 3}, {128*6 + 1, 3}, {128 * 6, 1}, {1, 1}, {0, 0}} {
		check(t, m, cut("/f", c.n), api.Result{})
		checkUsed(t, m, 1+c.blocks, 2)
	}
}

// OpRead: its errors in their order, and what there is at each edge.
func TestRead(t *testing.T) {
	m := stocked(t)
	for _, p := range []string{"/", "/f", "/d", "/none", "/f/x"} {
		checkE(t, m, api.Invalid, read(p, -1, 0), read(p, -1, 5), read(p, 0, -1), read(p, math.MinInt, math.MinInt), read(p, 0, 1025), read(p, math.MaxInt, math.MaxInt), read(p, 533248, 1025))
	}
	checkE(t, m, api.IsDir, read("/", 0, 0), read("/d", 5, 5), read("/e", math.MaxInt, 1024))
	for _, c := range []struct {
		at, n int
		want  string
	}{{0, 0, ""}, {0, 1, "a"}, {0, 3, "abc"}, {0, 4, "abc"}, {0, 1024, "abc"}, {1, 1, "b"}, {2, 1024, "c"}, {3, 1024, ""}, {4, 0, ""}, {1000, 1024, ""}, {533248, 1024, ""}, {math.MaxInt, 1024, ""}, {math.MaxInt - 1, 3, ""}} {
		check(t, m, read("/f", c.at, c.n), api.Result{Data: c.want})
	}
	check(t, m, read("/d/g", 0, 1024), api.Result{})
	// A file without blocks has as many bytes 0 as its Size.
	check(t, m, cut("/d/g", 533248), api.Result{})
	check(t, m, read("/d/g", 1000, 1024), api.Result{Data: strings.Repeat("\x00", 1024)})
	check(t, m, read("/d/g", 533240, 1024), api.Result{Data: strings.Repeat("\x00", 8)})
}

// OpStat and OpList.
func TestTell(t *testing.T) {
	m := stocked(t)
	check(t, m, stat("/"), api.Result{Kind: 2, Links: 1, Size: 96})
	check(t, m, stat("/e"), api.Result{Kind: 2, Links: 1})
	check(t, m, stat("/d"), api.Result{Kind: 2, Links: 1, Size: 64})
	check(t, m, stat("/f"), api.Result{Kind: 1, Links: 1, Size: 3})
	check(t, m, list("/"), api.Result{Names: []string{"d", "e", "f"}})
	check(t, m, list("/d"), api.Result{Names: []string{"g", "h"}})
	check(t, m, list("/e"), api.Result{})
	checkE(t, m, api.NotDir, list("/f"), list("/d/g"))
	// By their bytes, whatever the order in which they came.
	for _, name := range []string{"\xff", "b", "B", "a!", "a", "\x01", "ab"} {
		check(t, m, link("/f", "/e/"+name), api.Result{})
	}
	check(t, m, list("/e"), api.Result{Names: []string{"\x01", "B", "a", "a!", "ab", "b", "\xff"}})
	check(t, m, stat("/f"), api.Result{Kind: 1, Links: 8, Size: 3})
	check(t, m, stat("/e/\xff"), api.Result{Kind: 1, Links: 8, Size: 3})
}

// OpLink: its errors in their order.
func TestLinkErrors(t *testing.T) {
	m := stocked(t)
	for _, to := range []string{"/", "/x", "/f", "/none/x", "/f/x"} {
		checkE(t, m, api.IsDir, link("/", to), link("/d", to), link("/e", to))
		checkE(t, m, api.NoEntry, link("/x", to), link("/d/x", to))
		checkE(t, m, api.NotDir, link("/f/x", to))
	}
	checkE(t, m, api.Exists, link("/f", "/"), link("/f", "/f"), link("/f", "/d"), link("/f", "/d/g"), link("/d/g", "/f"))
	checkE(t, m, api.NoEntry, link("/f", "/none/x"), link("/f", "/d/none/x"))
	checkE(t, m, api.NotDir, link("/f", "/f/x"), link("/f", "/d/g/x"), link("/f", "/f/x/y"))
	// ManyLinks comes ahead of what To is.
	m = fresh(t, of(40, 4), create("/f"), mkdir("/d"))
	for i := 1; i < 100; i++ {
		check(t, m, link("/f", "/"+strconv.Itoa(i)), api.Result{})
	}
	check(t, m, stat("/99"), api.Result{Kind: 1, Links: 100})
	for _, to := range []string{"/", "/x", "/f", "/none/x", "/f/x", "/d/x"} {
		checkE(t, m, api.ManyLinks, link("/f", to), link("/50", to))
		checkE(t, m, api.IsDir, link("/d", to))
	}
	check(t, m, unlink("/7"), api.Result{})
	check(t, m, link("/99", "/d/x"), api.Result{})
	checkE(t, m, api.ManyLinks, link("/d/x", "/7"))
	checkUsed(t, m, 28, 3)
}

// OpLink, OpUnlink, 14.4: names of one file.
func TestLinks(t *testing.T) {
	m := stocked(t)
	check(t, m, link("/f", "/d/f"), api.Result{})
	check(t, m, link("/d/f", "/e/f"), api.Result{})
	check(t, m, write("/e/f", 1, "X"), api.Result{})
	for _, p := range []string{"/f", "/d/f", "/e/f"} {
		check(t, m, stat(p), api.Result{Kind: 1, Links: 3, Size: 3})
		check(t, m, read(p, 0, 9), api.Result{Data: "aXc"})
	}
	checkUsed(t, m, 4, 6)
	check(t, m, unlink("/f"), api.Result{})
	checkE(t, m, api.NoEntry, stat("/f"), unlink("/f"))
	check(t, m, stat("/d/f"), api.Result{Kind: 1, Links: 2, Size: 3})
	check(t, m, unlink("/d/f"), api.Result{})
	check(t, m, read("/e/f", 0, 9), api.Result{Data: "aXc"})
	checkUsed(t, m, 4, 6)
	check(t, m, unlink("/e/f"), api.Result{})
	checkUsed(t, m, 3, 5)
	// The inode that is taken anew has nothing of what was there.
	check(t, m, create("/n"), api.Result{})
	check(t, m, stat("/n"), api.Result{Kind: 1, Links: 1})
	check(t, m, cut("/n", 9), api.Result{})
	check(t, m, read("/n", 0, 9), api.Result{Data: strings.Repeat("\x00", 9)})
}

// OpUnlink and OpRmdir: their errors in their order.
func TestRemove(t *testing.T) {
	m := stocked(t)
	checkE(t, m, api.IsDir, unlink("/"), unlink("/d"), unlink("/e"), unlink("/d/h"))
	checkE(t, m, api.Invalid, rmdir("/"))
	checkE(t, m, api.NotDir, rmdir("/f"), rmdir("/d/g"))
	checkE(t, m, api.NotEmpty, rmdir("/d"))
	check(t, m, rmdir("/e"), api.Result{})
	check(t, m, unlink("/d/g"), api.Result{})
	checkE(t, m, api.NotEmpty, rmdir("/d"))
	check(t, m, rmdir("/d/h"), api.Result{})
	// Its slots are free and its block is still there, till it goes itself.
	check(t, m, stat("/d"), api.Result{Kind: 2, Links: 1, Size: 64})
	checkUsed(t, m, 3, 3)
	check(t, m, rmdir("/d"), api.Result{})
	checkUsed(t, m, 2, 2)
	check(t, m, stat("/"), api.Result{Kind: 2, Links: 1, Size: 96})
	// The root is told so, empty or not.
	check(t, m, unlink("/f"), api.Result{})
	checkE(t, m, api.Invalid, rmdir("/"))
	checkE(t, m, api.IsDir, unlink("/"))
	check(t, m, mkdir("/d"), api.Result{})
	check(t, m, stat("/d"), api.Result{Kind: 2, Links: 1})
}

// OpRename: its errors in their order.
func TestRenameErrors(t *testing.T) {
	m := stocked(t)
	for _, to := range []string{"/", "/x", "/f", "/none/x", "/f/x", "/d/x"} {
		checkE(t, m, api.Invalid, rename("/", to))
		checkE(t, m, api.NoEntry, rename("/x", to), rename("/d/x", to), rename("/none/x", to))
		checkE(t, m, api.NotDir, rename("/f/x", to))
	}
	checkE(t, m, api.Exists, rename("/f", "/"), rename("/d", "/"), rename("/d/g", "/"))
	checkE(t, m, api.Invalid, rename("/d", "/d/x"), rename("/d", "/d/g"), rename("/d", "/d/none/x"), rename("/d", "/d/g/x"), rename("/d/h", "/d/h/x/y"), rename("/e", "/e/e"))
	checkE(t, m, api.NotDir, rename("/f", "/f/x"), rename("/f", "/f/x/y"), rename("/d", "/f/x"), rename("/e", "/d/g/x"))
	checkE(t, m, api.NoEntry, rename("/f", "/none/x"), rename("/d", "/e/none/x"))
	checkE(t, m, api.Exists, rename("/f", "/f"), rename("/d", "/d"), rename("/d", "/f"), rename("/f", "/d"), rename("/d/h", "/d"), rename("/d/g", "/d/h"), rename("/e", "/d/g"))
}

// OpRename: the name that is taken away leaves its slot to the one that is put.
func TestRename(t *testing.T) {
	m := stocked(t)
	for _, op := range []api.Op{rename("/d", "/dd"), rename("/f", "/dd/h/f"), rename("/dd/h", "/e/h"), rename("/e/h/f", "/e/h/g")} {
		check(t, m, op, api.Result{})
	}
	checkTree(t, m,
		File{Path: "/", Kind: 2, Links: 1, Size: 96, Blocks: []int{0}},
		File{Path: "/dd", Inode: 3, Kind: 2, Links: 1, Size: 64, Blocks: []int{0}},
		File{Path: "/dd/g", Inode: 4, Kind: 1, Links: 1},
		File{Path: "/e", Inode: 2, Kind: 2, Links: 1, Size: 32, Blocks: []int{0}},
		File{Path: "/e/h", Inode: 5, Kind: 2, Links: 1, Size: 32, Blocks: []int{0}},
		File{Path: "/e/h/g", Inode: 1, Kind: 1, Links: 1, Size: 3, Blocks: []int{0}, Data: "abc" + strings.Repeat("\x00", 125)})
	checkUsed(t, m, 5, 6)
	// Of a file with more names only one is another.
	check(t, m, link("/e/h/g", "/a"), api.Result{})
	check(t, m, rename("/a", "/b"), api.Result{})
	check(t, m, stat("/b"), api.Result{Kind: 1, Links: 2, Size: 3})
	check(t, m, rename("/b", "/dd/b"), api.Result{})
	check(t, m, stat("/e/h/g"), api.Result{Kind: 1, Links: 2, Size: 3})
	// Names that begin alike are not below one another.
	check(t, m, rename("/e", "/ee"), api.Result{})
	check(t, m, rename("/ee", "/e"), api.Result{})
	checkE(t, m, api.NotDir, rename("/e", "/dd/g/e"))
}

// OpRename, where no block is left: there is room in the slot that is left, and in one that is free, and else none.
func TestRenameNoSpace(t *testing.T) {
	m := fresh(t, of(4, 10), create("/a"), create("/b"), create("/c"), mkdir("/d"), write("/a", 0, long(384)))
	check(t, m, rename("/a", "/x"), api.Result{})
	check(t, m, rename("/d", "/y"), api.Result{})
	check(t, m, stat("/"), api.Result{Kind: 2, Links: 1, Size: 128})
	checkE(t, m, api.NoSpace, rename("/b", "/y/b"), rename("/x", "/y/x"))
	checkE(t, m, api.Invalid, rename("/y", "/y/x"))
	checkE(t, m, api.Exists, rename("/b", "/c"))
	check(t, m, cut("/x", 256), api.Result{})
	for _, op := range []api.Op{rename("/b", "/y/b"), rename("/c", "/y/c"), create("/e"), create("/f")} {
		check(t, m, op, api.Result{})
	}
	// The root's four slots are taken: another name of a file that moves out of a directory wants a block.
	checkE(t, m, api.NoSpace, rename("/y/b", "/b"), create("/g"))
	check(t, m, unlink("/e"), api.Result{})
	check(t, m, rename("/y/b", "/b"), api.Result{})
	check(t, m, list("/"), api.Result{Names: []string{"b", "f", "x", "y"}})
	check(t, m, list("/y"), api.Result{Names: []string{"c"}})
	checkUsed(t, m, 4, 6)
}

// The tree has paths of more than MaxDepth names, that no operation finds; what they are takes blocks and inodes.
func TestDeep(t *testing.T) {
	m := fresh(t, of(40, 20), append(chain(7), create(strings.Repeat("/q", 7)+"/f"), mkdir("/a"), mkdir("/a/b"), rename("/q", "/a/b/q"))...)
	deepest := "/a/b" + strings.Repeat("/q", 7) + "/f"
	tree := m.Tree()
	if got := tree[len(tree)-1]; len(tree) != 11 || got.Path != deepest || got.Inode != 8 || got.Kind != api.KindFile {
		t.Errorf("%v", tree)
	}
	checkE(t, m, api.LongName, stat(deepest), unlink(deepest), rename(deepest, "/f"))
	checkUsed(t, m, 10, 11)
	checkE(t, m, api.NotEmpty, rmdir("/a/b"+strings.Repeat("/q", 6)))
	check(t, m, rename("/a/b/q/q", "/r"), api.Result{})
	check(t, m, stat("/r/q/q/q/q/q/f"), api.Result{Kind: 1, Links: 1})
}

// 14.1: the tree stands by names, not by the texts of its paths, each path once.
func TestTreeOrder(t *testing.T) {
	m := fresh(t, of(40, 20), mkdir("/b"), mkdir("/a"), create("/a/z"), create("/a!"), mkdir("/a/y"), create("/a/y/x"), link("/a/z", "/a0"), link("/a/z", "/B"), link("/a!", "/\xff"))
	want := []string{"/", "/B", "/a", "/a/y", "/a/y/x", "/a/z", "/a!", "/a0", "/b", "/\xff"}
	got := []string{}
	for _, f := range m.Tree() {
		got = append(got, f.Path)
	}
	if !slices.Equal(got, want) {
		t.Errorf("%q, want %q", got, want)
	}
}

// R3: what was told is nobody else's.
func TestMemory(t *testing.T) {
	m := fresh(t, of(40, 8), create("/f"), link("/f", "/g"), write("/f", 0, long(300)))
	names := m.Do(list("/")).Names
	names[0] = "x"
	_ = append(names[:1], "y", "z")
	check(t, m, list("/"), api.Result{Names: []string{"f", "g"}})
	tree := m.Tree()
	tree[1].Blocks[0] = 9
	_ = append(tree[1].Blocks, 7, 7, 7)
	if tree[2].Blocks[0] != 0 || tree[0].Blocks[0] != 0 {
		t.Errorf("%v", tree)
	}
	for _, f := range tree {
		clear(f.Blocks[:cap(f.Blocks)])
	}
	clear(tree)
	if f := m.Tree()[1]; f.Path != "/f" || !slices.Equal(f.Blocks, []int{0, 1, 2}) {
		t.Errorf("%v", f)
	}
	checkUsed(t, m, 4, 2)
}

// someWay is a path: most often one of the tree's, or a name in one of its directories; now and then none at all.
func someWay(s *source, tree []File, kind int) string {
	if s.next(40) == 0 {
		return []string{"", "a", "/a/", "/" + long(25), "/a/..", strings.Repeat("/a", 9)}[s.next(6)]
	}
	f := tree[s.next(len(tree))]
	for range 4 {
		if f.Kind != kind && kind != 0 {
			f = tree[s.next(len(tree))]
		}
	}
	if s.next(4) > 0 {
		return f.Path
	}
	return in(f, someName(s)) + []string{"", "", "/b", "/b/c"}[s.next(4)]
}

func someName(s *source) string {
	return []string{"a", "b", "c", "a!", "d", "e", "f", long(24)}[s.next(8)]
}

// in is the path of a name in a directory.
func in(f File, name string) string {
	return strings.TrimSuffix(f.Path, "/") + "/" + name
}

// newWay is a name in a directory of the tree, if that is found soon.
func newWay(s *source, tree []File) string {
	if s.next(6) == 0 {
		return someWay(s, tree, 0)
	}
	f := tree[s.next(len(tree))]
	for range 4 {
		if f.Kind != api.KindDir {
			f = tree[s.next(len(tree))]
		}
	}
	return in(f, someName(s))
}

// somePlace is a byte of a file: near an edge of a block, or of what blocks name.
func somePlace(s *source) int {
	edges := []int{0, 128, 256, 384, 512, 640, 768, 896, 128 * 20, 128 * 69, 128 * 70, 128 * 71, 128 * 133, 128 * 134, 128 * 135, 533248 - 1024, 533248 - 128, 533248}
	many := len(edges)
	if s.next(3) > 0 {
		many = 8
	}
	return max(0, edges[s.next(many)]+s.next(5)-2)
}

// random is an operation that the tree might bear, or might not.
func random(s *source, tree []File) api.Op {
	kinds := []int{1, 1, 1, 2, 2, 3, 3, 3, 3, 3, 4, 4, 5, 5, 6, 7, 8, 8, 9, 9, 10, 11, 11, 11}
	op := api.Op{Kind: kinds[s.next(len(kinds))], At: somePlace(s), N: s.next(1025)}
	switch op.Kind {
	case api.OpCreate, api.OpMkdir:
		op.Path = newWay(s, tree)
	case api.OpWrite, api.OpTruncate, api.OpRead, api.OpLink, api.OpUnlink:
		op.Path = someWay(s, tree, api.KindFile)
	default:
		op.Path = someWay(s, tree, 0)
	}
	op.To = newWay(s, tree)
	if op.Kind == api.OpTruncate {
		op.N = somePlace(s)
	}
	switch s.next(60) {
	case 0:
		op.At = odd()[s.next(len(odd()))]
	case 1:
		op.N = odd()[s.next(len(odd()))]
	case 2:
		op.Kind = s.next(20) - 4
	}
	if s.next(10) > 0 {
		op.Data = strings.Repeat(string([]byte{byte(s.next(256))}), []int{1, 2, 127, 128, 129, 300, 600, 1023, 1024, 1025}[s.next(10)])
	}
	return op
}

// checkLinks holds 14.4 of a tree.
func checkLinks(t *testing.T, tree []File) {
	t.Helper()
	paths := map[int]int{}
	for i, f := range tree {
		paths[f.Inode]++
		if i == 0 {
			continue
		}
		a, b := strings.Split(tree[i-1].Path, "/"), strings.Split(f.Path, "/")
		if i > 1 && !path.Less(a[1:], b[1:]) {
			t.Errorf("%q stands ahead of %q", tree[i-1].Path, f.Path)
		}
	}
	for _, f := range tree {
		if f.Links != paths[f.Inode] {
			t.Errorf("%v has %d paths", f, paths[f.Inode])
		}
	}
}

// 14.1 to 14.4 and P1: long runs against a plain model, in which every answer is told, and every error.
func TestRuns(t *testing.T) {
	seen := map[int]map[api.Errno]int{}
	for run := range 100 {
		s := &source{uint32(run)}
		sh := of([]int{4, 7, 15, 40, 200}[run%5], []int{2, 5, 9, 30}[run%4])
		m, p := fresh(t, sh), newPlain(sh)
		for step := range 400 {
			op := random(s, m.Tree())
			got, want := m.Do(op), p.do(op)
			if !same(got, want) {
				t.Fatalf("run %d, step %d: %+v: %+v, want %+v", run, step, op, got, want)
			}
			blocks, inodes := m.Used()
			if b, i := p.used(); b != blocks || i != inodes || blocks > p.most {
				t.Fatalf("run %d, step %d: %+v: Used: %d, %d, want %d, %d", run, step, op, blocks, inodes, b, i)
			}
			tree := m.Tree()
			if !sameTree(tree, p.tree("", 0)) {
				t.Fatalf("run %d, step %d: %+v: %v, want %v", run, step, op, tree, p.tree("", 0))
			}
			checkLinks(t, tree)
			if seen[op.Kind] == nil {
				seen[op.Kind] = map[api.Errno]int{}
			}
			seen[op.Kind][got.E]++
		}
	}
	checkSeen(t, seen)
}

// checkSeen asks that runs came upon what each operation may answer, often (but ManyLinks, which wants many names).
func checkSeen(t *testing.T, seen map[int]map[api.Errno]int) {
	t.Helper()
	both := []api.Errno{api.OK, api.Invalid, api.LongName, api.NotDir, api.NoEntry}
	more := map[int][]api.Errno{
		1: {api.Exists, api.NoSpace}, 2: {api.Exists, api.NoSpace}, 3: {api.IsDir, api.TooBig, api.NoSpace}, 4: {api.IsDir, api.TooBig}, 5: {api.IsDir},
		8: {api.IsDir, api.Exists, api.NoSpace}, 9: {api.IsDir}, 10: {api.NotEmpty}, 11: {api.Exists, api.NoSpace},
	}
	for kind := 1; kind <= 11; kind++ {
		for _, e := range append(more[kind], both...) {
			if seen[kind][e] < 3 {
				t.Errorf("operation %d answered %v %d times", kind, e, seen[kind][e])
			}
		}
	}
}

// P1, R6: numbers of all sizes in all fields; two models that were told the same tell the same.
func TestTotal(t *testing.T) {
	a, b := stocked(t), stocked(t)
	numbers := append(odd(), 0, 1, 128, 1024, 533248)
	for _, kind := range append(odd(), 1, 2, 3, 4, 5, 6, 7, 8, 9, 10, 11) {
		for _, at := range numbers {
			for _, n := range numbers {
				for _, p := range []string{"/", "/f", "/d/g", "/e", "\x00"} {
					op := api.Op{Kind: kind, At: at, N: n, Path: p, To: p + "x", Data: long(n & 1024)}
					if x, y := a.Do(op), b.Do(op); !same(x, y) {
						t.Errorf("%+v: %+v, %+v", op, x, y)
					}
				}
			}
		}
	}
	if !sameTree(a.Tree(), b.Tree()) {
		t.Errorf("%v, %v", a.Tree(), b.Tree())
	}
}
