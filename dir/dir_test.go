package dir

import (
	"bytes"
	"math"
	"slices"
	"strings"
	"testing"

	"cartulary/api"
	"cartulary/file"
)

// source is a row of numbers that is the same in every run.
type source struct{ x uint32 }

func (s *source) next(n int) int {
	s.x = s.x*1664525 + 1013904223
	return int(s.x>>8) % n
}

// odd are numbers at which sums wrap round, or which look small once their high bits are cut.
func odd() []int {
	return []int{math.MinInt, math.MinInt + 1, -1 << 32, -1<<32 + 3, -128, -1, 256 + 3, 1<<16 + 3, 1 << 32, 1<<32 + 3, math.MaxInt - 1, math.MaxInt}
}

func zeros(n int) string { return strings.Repeat("\x00", n) }

// shape has 16 data blocks, from 24 on; with has so many.
func shape() api.Shape        { return with(16) }
func with(data int) api.Shape { return api.Shape{Blocks: 24 + data, Journal: 20, Inodes: 8} }

const (
	root   = 0 // a directory
	plain  = 1 // a file
	free   = 2
	broken = 3 // its bytes are none
	other  = 4 // a directory
)

// view has inodes of each kind, and nothing else.
func view(t *testing.T, s api.Shape) *file.View {
	t.Helper()
	blocks := slices.Repeat([]string{zeros(128)}, s.Blocks)
	blocks[22] = zeros(96) + strings.Repeat("\x09", 32)
	v, e := file.New(s, blocks)
	if e != api.OK {
		t.Fatal(e)
	}
	v.Set(root, api.Inode{Kind: api.KindDir, Links: 1})
	v.Set(plain, api.Inode{Kind: api.KindFile, Links: 1})
	v.Set(other, api.Inode{Kind: api.KindDir, Links: 1})
	return v
}

// holds is a view whose root has these bytes.
func holds(t *testing.T, data string) *file.View {
	t.Helper()
	v := view(t, shape())
	for at := 0; at < len(data); at += 1024 {
		if e := v.Write(root, at, data[at:min(at+1024, len(data))]); e != api.OK {
			t.Fatal(e)
		}
	}
	return v
}

// raw is a slot's 32 bytes: a number, a length, and what follows.
func raw(to, length int, rest string) string {
	return string([]byte{byte(to), byte(to >> 8), byte(length)}) + rest + zeros(29-len(rest))
}

func named(to int, name string) string { return raw(to, len(name), name) }

// kept does what should change nothing.
func kept(t *testing.T, v *file.View, do func()) {
	t.Helper()
	ahead := v.Changes()
	do()
	if behind := v.Changes(); !slices.Equal(ahead, behind) {
		t.Errorf("changed from %v to %v", ahead, behind)
	}
}

func checkFind(t *testing.T, v *file.View, dir int, name string, want int, wantE api.Errno) {
	t.Helper()
	kept(t, v, func() {
		if n, e := Find(v, dir, name); n != want || e != wantE {
			t.Errorf("Find(%d, %q): %d, %v, want %d, %v", dir, name, n, e, want, wantE)
		}
	})
}

func checkPut(t *testing.T, v *file.View, dir int, name string, to int, want api.Errno) {
	t.Helper()
	put := func() {
		if e := Put(v, dir, name, to); e != want {
			t.Errorf("Put(%d, %q, %d): %v, want %v", dir, name, to, e, want)
		}
	}
	if want == api.OK {
		put()
	} else {
		kept(t, v, put)
	}
}

func checkTake(t *testing.T, v *file.View, dir int, name string, want int, wantE api.Errno) {
	t.Helper()
	take := func() {
		if n, e := Take(v, dir, name); n != want || e != wantE {
			t.Errorf("Take(%d, %q): %d, %v, want %d, %v", dir, name, n, e, want, wantE)
		}
	}
	if wantE == api.OK {
		take()
	} else {
		kept(t, v, take)
	}
}

func checkNames(t *testing.T, v *file.View, dir int, wantE api.Errno, want ...string) {
	t.Helper()
	kept(t, v, func() {
		if l, e := Names(v, dir); !slices.Equal(l, want) || e != wantE {
			t.Errorf("Names(%d): %q, %v, want %q, %v", dir, l, e, want, wantE)
		}
	})
}

func checkCount(t *testing.T, v *file.View, dir, slots, used int, wantE api.Errno) {
	t.Helper()
	kept(t, v, func() {
		if n, m, e := Count(v, dir); n != slots || m != used || e != wantE {
			t.Errorf("Count(%d): %d, %d, %v, want %d, %d, %v", dir, n, m, e, slots, used, wantE)
		}
	})
}

// bytesOf are all bytes of an inode.
func bytesOf(v *file.View, i int) string {
	out := ""
	for {
		s, _ := v.Read(i, len(out), 1024)
		if s == "" {
			return out
		}
		out += s
	}
}

func checkBytes(t *testing.T, v *file.View, dir int, want ...string) {
	t.Helper()
	if got := bytesOf(v, dir); got != strings.Join(want, "") {
		t.Errorf("%d holds %q, want %q", dir, got, want)
	}
}

// 16.1, 16.2: the document's example.
func TestExample(t *testing.T) {
	v := view(t, shape())
	checkPut(t, v, root, "a", 3, api.OK)
	checkBytes(t, v, root, "\x03\x00\x01\x61"+zeros(28))
	checkTake(t, v, root, "a", 3, api.OK)
	checkBytes(t, v, root, zeros(32))
	checkCount(t, v, root, 1, 0, api.OK)
}

// 16.2: a directory without a slot.
func TestNothing(t *testing.T) {
	v := view(t, shape())
	checkNames(t, v, root, api.OK)
	checkCount(t, v, root, 0, 0, api.OK)
	checkFind(t, v, root, "a", 0, api.NoEntry)
	checkTake(t, v, root, "a", 0, api.NoEntry)
}

// What comes first: the inode's error, then that it is no directory, then the name's, then to's.
func TestFirst(t *testing.T) {
	names := map[string]api.Errno{"a": api.OK, "": api.Invalid, ".": api.Invalid, "..": api.Invalid, "/": api.Invalid, "a/b": api.Invalid, "a\x00": api.Invalid, strings.Repeat("n", 25): api.LongName, strings.Repeat("n", 99): api.LongName, strings.Repeat("n", 99) + "/": api.Invalid}
	inodes := map[int]api.Errno{8: api.ErrNone, 9: api.ErrNone, 64: api.ErrNone, broken: api.ErrInode, free: api.ErrState, plain: api.ErrState, root: api.OK}
	for _, i := range odd() {
		inodes[i] = api.ErrNone
	}
	v := view(t, shape())
	v.Write(plain, 0, named(5, "a"))
	for i, e := range inodes {
		for name, nameE := range names {
			want, wantPut := e, e
			if e == api.OK {
				want, wantPut = nameE, nameE
			}
			if want == api.OK {
				want, wantPut = api.NoEntry, api.ErrArg
			}
			checkFind(t, v, i, name, 0, want)
			checkTake(t, v, i, name, 0, want)
			for _, to := range append(odd(), 0, 64) {
				checkPut(t, v, i, name, to, wantPut)
			}
			if wantPut != api.ErrArg {
				checkPut(t, v, i, name, 5, wantPut)
			}
		}
		if e != api.OK {
			checkNames(t, v, i, e)
			checkCount(t, v, i, 0, 0, e)
		}
	}
	checkPut(t, v, root, "a", 5, api.OK)
	for _, to := range append(odd(), 0, 64) {
		checkPut(t, v, root, "a", to, api.ErrArg)
	}
	for _, to := range []int{1, 5, 63} {
		checkPut(t, v, root, "a", to, api.Exists)
	}
}

// A nil view, and one that file.New did not make: View.Inode's error.
func TestNil(t *testing.T) {
	for _, v := range []*file.View{nil, {}} {
		for _, i := range append(odd(), 0, 1) {
			for _, name := range []string{"a", "", "a/b", strings.Repeat("n", 25)} {
				checkFind(t, v, i, name, 0, api.ErrNone)
				checkTake(t, v, i, name, 0, api.ErrNone)
				checkPut(t, v, i, name, 0, api.ErrNone)
				checkPut(t, v, i, name, 5, api.ErrNone)
			}
			checkNames(t, v, i, api.ErrNone)
			checkCount(t, v, i, 0, 0, api.ErrNone)
		}
	}
}

// 16.1: the least and the greatest names and numbers.
func TestPutEdges(t *testing.T) {
	v := view(t, shape())
	long := strings.Repeat("\xff", 24)
	checkPut(t, v, root, "a", 1, api.OK)
	checkPut(t, v, root, long, 63, api.OK)
	checkPut(t, v, root, long[1:], 62, api.OK)
	checkPut(t, v, root, "...", 1, api.OK)
	checkBytes(t, v, root, named(1, "a"), named(63, long), named(62, long[1:]), named(1, "..."))
	checkFind(t, v, root, "a", 1, api.OK)
	checkFind(t, v, root, long, 63, api.OK)
	checkFind(t, v, root, long[1:], 62, api.OK)
	checkFind(t, v, root, long[2:], 0, api.NoEntry)
	checkFind(t, v, root, "aa", 0, api.NoEntry)
	checkFind(t, v, root, "A", 0, api.NoEntry)
	checkNames(t, v, root, api.OK, "...", "a", long[1:], long)
	checkNames(t, v, other, api.OK)
	checkCount(t, v, root, 4, 4, api.OK)
	checkTake(t, v, root, long, 63, api.OK)
	checkTake(t, v, root, long, 0, api.NoEntry)
	checkBytes(t, v, root, named(1, "a"), zeros(32), named(62, long[1:]), named(1, "..."))
}

// 16.1: the first free slot is taken, whatever else it holds; else one behind the last.
func TestSlots(t *testing.T) {
	v := holds(t, named(3, "c")+raw(0, 9, "left over")+named(4, "d")+zeros(32))
	checkCount(t, v, root, 4, 2, api.OK)
	checkNames(t, v, root, api.OK, "c", "d")
	checkFind(t, v, root, "left over", 0, api.NoEntry)
	checkTake(t, v, root, "left over", 0, api.NoEntry)
	checkPut(t, v, root, "b", 5, api.OK)
	checkBytes(t, v, root, named(3, "c"), named(5, "b"), named(4, "d"), zeros(32))
	checkPut(t, v, root, "e", 6, api.OK)
	checkPut(t, v, root, "f", 7, api.OK)
	checkBytes(t, v, root, named(3, "c"), named(5, "b"), named(4, "d"), named(6, "e"), named(7, "f"))
	checkTake(t, v, root, "f", 7, api.OK)
	checkTake(t, v, root, "c", 3, api.OK)
	checkPut(t, v, root, "g", 8, api.OK)
	checkBytes(t, v, root, named(8, "g"), named(5, "b"), named(4, "d"), named(6, "e"), zeros(32))
}

// Words: slots that are not as Put writes them.
func TestOddSlots(t *testing.T) {
	slots := []string{
		raw(256, 1, "h"),                        // the number's second byte alone
		raw(65535, 1, "m"),                      // the greatest
		raw(3, 25, "too long for a name .. .."), // no name, though not free
		raw(3, 255, "too long"),
		raw(4, 24, strings.Repeat("n", 24)+"xyzzy"), // bytes behind the name
		raw(5, 1, "abc"),
		raw(6, 3, "abc"),
		raw(7, 0, "abc"), // the name of no bytes
		raw(8, 1, "abc"), // the name of the sixth
		raw(9, 3, "a/\x00"),
		raw(0, 1, "f"),
	}
	v := holds(t, strings.Join(slots, ""))
	checkCount(t, v, root, 11, 10, api.OK)
	checkNames(t, v, root, api.OK, "", "a", "a", "a/\x00", "abc", "h", "m", strings.Repeat("n", 24))
	checkFind(t, v, root, "h", 256, api.OK)
	checkFind(t, v, root, "m", 65535, api.OK)
	checkFind(t, v, root, "too long", 0, api.NoEntry)
	checkFind(t, v, root, strings.Repeat("n", 24), 4, api.OK)
	checkFind(t, v, root, "abc", 6, api.OK)
	checkFind(t, v, root, "ab", 0, api.NoEntry)
	checkFind(t, v, root, "f", 0, api.NoEntry)
	checkFind(t, v, root, "a/\x00", 0, api.Invalid)
	checkPut(t, v, root, "m", 5, api.Exists)
	checkTake(t, v, root, "m", 65535, api.OK)
	// The first of two that have the name is found and taken, then the second.
	checkFind(t, v, root, "a", 5, api.OK)
	checkTake(t, v, root, "a", 5, api.OK)
	checkFind(t, v, root, "a", 8, api.OK)
	checkPut(t, v, root, "a", 9, api.Exists)
	checkTake(t, v, root, "a", 8, api.OK)
	checkTake(t, v, root, "a", 0, api.NoEntry)
	slots[1], slots[5], slots[8] = zeros(32), zeros(32), zeros(32)
	checkBytes(t, v, root, slots...)
}

// Words: as many slots as Size has whole ones.
func TestSize(t *testing.T) {
	data := named(3, "a") + named(4, "b") + named(5, "c")
	for size := range 97 {
		v := holds(t, data)
		v.Cut(root, size)
		whole := size / 32
		checkCount(t, v, root, whole, whole, api.OK)
		checkNames(t, v, root, api.OK, []string{"a", "b", "c"}[:whole]...)
		checkPut(t, v, root, "d", 6, api.OK)
		checkBytes(t, v, root, data[:32*whole], named(6, "d"))
	}
}

// 16.1: a directory with holes: their slots are free, and written where there is room.
func TestHoles(t *testing.T) {
	v := view(t, with(4))
	v.Cut(root, 256)
	checkCount(t, v, root, 8, 0, api.OK)
	v.Write(root, 128, named(3, "a"))
	v.Write(plain, 0, strings.Repeat("x", 384))
	checkCount(t, v, root, 8, 1, api.OK)
	checkFind(t, v, root, "a", 3, api.OK)
	checkPut(t, v, root, "b", 4, api.NoSpace) // the first free one is in the hole
	checkTake(t, v, root, "a", 3, api.OK)
	v.Cut(plain, 0)
	checkPut(t, v, root, "b", 4, api.OK)
	checkBytes(t, v, root, named(4, "b"), zeros(7*32))
}

// 16.1: no space, and a directory that is too big: View.Write's errors.
func TestWriteErrors(t *testing.T) {
	v := view(t, with(4))
	v.Write(plain, 0, strings.Repeat("x", 384))
	for k := range 4 {
		checkPut(t, v, root, string(rune('a'+k)), 5, api.OK)
	}
	checkPut(t, v, root, "e", 5, api.NoSpace)
	checkPut(t, v, root, "a", 5, api.Exists)
	checkTake(t, v, root, "b", 5, api.OK)
	checkPut(t, v, root, "e", 6, api.OK)
	checkNames(t, v, root, api.OK, "a", "c", "d", "e")
	checkCount(t, v, root, 4, 4, api.OK)

	// One block, in which no slot is free, at every index.
	full := view(t, with(4))
	names := func(b byte) string { return strings.Repeat(string([]byte{b, 0}), 64) }
	full.Write(plain, 0, strings.Repeat(named(5, "a"), 4)+names(24)+names(25))
	full.Set(root, api.Inode{Kind: api.KindDir, Links: 1, Size: 533248, Direct: [6]int{24, 24, 24, 24, 24, 24}, Single: 25, Double: 26})
	checkCount(t, full, root, 16664, 16664, api.OK)
	checkPut(t, full, root, "b", 5, api.TooBig)
	full.Set(root, api.Inode{Kind: api.KindDir, Links: 1, Size: 533247, Direct: [6]int{24, 24, 24, 24, 24, 24}, Single: 25, Double: 26})
	checkCount(t, full, root, 16663, 16663, api.OK)
	if l, e := Names(full, root); len(l) != 16663 || l[0] != "a" || e != api.OK {
		t.Errorf("Names: %d, %v", len(l), e)
	}
	checkPut(t, full, root, "b", 5, api.OK)
	checkCount(t, full, root, 16664, 16664, api.OK)
	checkFind(t, full, root, "b", 5, api.OK)
}

// 16.2: names by their bytes.
func TestSorted(t *testing.T) {
	v := view(t, shape())
	for _, name := range []string{"b", "aa", "\xff", "a", "Z", "ab", "\u00e9", "a b", "\x01", "~", "10", "9"} {
		checkPut(t, v, root, name, 5, api.OK)
	}
	checkNames(t, v, root, api.OK, "\x01", "10", "9", "Z", "a", "a b", "aa", "ab", "b", "~", "\u00e9", "\xff")
}

// R3: a list that was told is nobody's but the caller's.
func TestMemory(t *testing.T) {
	v := holds(t, named(3, "a")+named(4, "b"))
	l, _ := Names(v, root)
	for i := range l[:cap(l)] {
		l[:cap(l)][i] = "z"
	}
	checkNames(t, v, root, api.OK, "a", "b")
}

// entry is a slot as a run's own list has it; a free one has no name.
type entry struct {
	name string
	to   int
}

// run is a directory as a list of slots, by the document's words.
type run []entry

func (l run) bytes() string {
	out := ""
	for _, s := range l {
		if s.name == "" {
			out += zeros(32)
		} else {
			out += named(s.to, s.name)
		}
	}
	return out
}

func (l run) names() []string {
	out := []string{}
	for _, s := range l {
		if s.name != "" {
			out = append(out, s.name)
		}
	}
	slices.Sort(out)
	return out
}

func (l run) of(name string) int {
	return slices.IndexFunc(l, func(s entry) bool { return s.name == name })
}

// room tells whether a slot behind the last one can be written.
func (l run) room(v *file.View) bool {
	index := len(l) / 4
	want := 1
	if index == 6 {
		want = 2
	}
	return len(l)%4 != 0 || v.Free() >= want
}

// put is the list with a name, and what Put tells.
func (l run) put(v *file.View, s entry) (run, api.Errno) {
	if l.of(s.name) >= 0 {
		return l, api.Exists
	}
	if at := l.of(""); at >= 0 {
		l[at] = s
		return l, api.OK
	}
	if !l.room(v) {
		return l, api.NoSpace
	}
	return append(l, s), api.OK
}

// 16.3: long runs of two directories: what was put is found until it is taken, and all else as it was.
func TestRun(t *testing.T) {
	names := []string{"a", "b", "ab", strings.Repeat("n", 24), strings.Repeat("n", 23), "\xff", "Z", "..."}
	for c := range 40 {
		names = append(names, string(rune('A'+c)))
	}
	seen := map[api.Errno]int{}
	for seed := range 12 {
		r := &source{uint32(seed)}
		v := view(t, with(4+3*seed))
		lists := map[int]run{root: {}, other: {}}
		for step := range 400 {
			dir := []int{root, other}[r.next(2)]
			l := lists[dir]
			name, to := names[r.next(len(names))], 1+r.next(63)
			if at := l.of(name); r.next(3) == 0 && at >= 0 {
				checkTake(t, v, dir, name, l[at].to, api.OK)
				l[at] = entry{}
			} else if r.next(4) == 0 && at < 0 {
				checkTake(t, v, dir, name, 0, api.NoEntry)
				seen[api.NoEntry]++
			} else {
				next, e := l.put(v, entry{name, to})
				checkPut(t, v, dir, name, to, e)
				lists[dir] = next
				seen[e]++
			}
			checkFound(t, v, dir, lists[dir], name)
			if step%20 == 0 {
				checkLists(t, v, lists, names)
			}
		}
	}
	for _, e := range []api.Errno{api.OK, api.Exists, api.NoSpace, api.NoEntry} {
		if seen[e] == 0 {
			t.Errorf("no run told %v: %v", e, seen)
		}
	}
}

func checkLists(t *testing.T, v *file.View, lists map[int]run, names []string) {
	t.Helper()
	for dir, l := range lists {
		checkBytes(t, v, dir, l.bytes())
		checkNames(t, v, dir, api.OK, l.names()...)
		checkCount(t, v, dir, len(l), len(l.names()), api.OK)
		for _, name := range names {
			checkFound(t, v, dir, l, name)
		}
	}
}

func checkFound(t *testing.T, v *file.View, dir int, l run, name string) {
	t.Helper()
	if at := l.of(name); at >= 0 {
		checkFind(t, v, dir, name, l[at].to, api.OK)
	} else {
		checkFind(t, v, dir, name, 0, api.NoEntry)
	}
}

// P1: whatever bytes a directory has, all calls end and tell what its slots say.
func TestGarbage(t *testing.T) {
	for seed := range 200 {
		r := &source{uint32(seed)}
		data := make([]byte, r.next(1200))
		for i := range data {
			if i%32 < 3 {
				data[i] = byte(r.next(4))
			} else {
				data[i] = "ab/\x00"[r.next(4)]
			}
			if r.next(40) == 0 {
				data[i] = byte(r.next(256))
			}
		}
		v := holds(t, string(data))
		used, first, list := 0, map[string]int{}, []string{}
		for at := 0; at+32 <= len(data); at += 32 {
			number, length := int(data[at])+256*int(data[at+1]), int(data[at+2])
			if number == 0 {
				continue
			}
			used++
			if length > 24 {
				continue
			}
			name := string(bytes.Clone(data[at+3 : at+3+length]))
			list = append(list, name)
			if _, there := first[name]; !there {
				first[name] = number
			}
		}
		slices.Sort(list)
		checkCount(t, v, root, len(data)/32, used, api.OK)
		checkNames(t, v, root, api.OK, list...)
		for _, name := range []string{"a", "b", "aa", "ab", "ba", "bb", "abc"} {
			want, there := first[name]
			if !there {
				checkFind(t, v, root, name, 0, api.NoEntry)
				checkTake(t, v, root, name, 0, api.NoEntry)
				continue
			}
			checkFind(t, v, root, name, want, api.OK)
			checkPut(t, v, root, name, 5, api.Exists)
			checkTake(t, v, root, name, want, api.OK)
		}
	}
}
