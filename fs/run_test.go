package fs

import (
	"slices"
	"strconv"
	"strings"
	"testing"

	"cartulary/api"
	"cartulary/dev"
	"cartulary/fsck"
	"cartulary/mend"
	"cartulary/model"
)

// 17.4: a file with a block of names for each place of Double's block is cut, and let go, by few changes; what was let go is blank when it is made again.
func TestManyNamers(t *testing.T) {
	s := api.Shape{Blocks: 400, Journal: 20, Inodes: 4}
	x := newPair(t, s, create("/f"))
	fill := func(step int) {
		for index := 4165; index >= 70; index -= step {
			x.all(api.OK, write("/f", 128*index, "x"))
		}
		x.all(api.OK, write("/f", 128*6, "x"), write("/f", 128*69, "x"))
	}
	fill(64)
	x.all(api.OK, cut("/f", 128*4000+1), cut("/f", 128*134), cut("/f", 128*7))
	fill(64)
	x.all(api.OK, cut("/f", 128*135+1), cut("/f", 128*70))
	fill(32)
	x.all(api.OK, cut("/f", 0))
	fill(64)
	x.changes(unlink("/f"), 21, 22, 23)
	x.all(api.OK, create("/f"))
	fill(64)
	x.tells(read("/f", 128*71, 300), api.Result{Data: strings.Repeat("\x00", 300)})
}

// 17.4: the write that changes the most blocks.
func TestGreatestWrite(t *testing.T) {
	x := newPair(t, of(60, 8), create("/f"), create("/g"))
	for p, at := range map[string]int{"/f": 128*65 + 1, "/g": 128*129 + 1} {
		r, c := x.do(write(p, at, long(1024)))
		if r.E != api.OK || len(c) != 14 {
			t.Errorf("%v, changes of %v", r.E, blocksOf(c))
		}
	}
}

// 17.2, 17.4: a directory of so many slots that Single and Double name its blocks.
func TestWideDirectory(t *testing.T) {
	x := newPair(t, of(90, 8), mkdir("/d"))
	names := []string{}
	for i := range 300 {
		name := strconv.Itoa(i)
		if i%100 == 0 {
			x.all(api.OK, create("/d/"+name))
		} else {
			x.all(api.OK, link("/d/"+strconv.Itoa(i-i%100), "/d/"+name))
		}
		names = append(names, name)
	}
	slices.Sort(names)
	x.tells(list("/d"), api.Result{Names: names})
	x.tells(stat("/d"), api.Result{Kind: api.KindDir, Links: 1, Size: 32 * 300})
	x.all(api.OK, rename("/d/288", "/x"), rename("/x", "/d/y"))
	for i := range 300 {
		if i != 288 {
			x.all(api.OK, unlink("/d/"+strconv.Itoa(i)))
		}
	}
	x.all(api.NotEmpty, rmdir("/d"))
	x.all(api.OK, unlink("/d/y"))
	x.changes(rmdir("/d"), 21, 22, 24)
}

// 17.2: a path has at most MaxDepth names, but by renames a tree may be deeper.
func TestDeep(t *testing.T) {
	x := newPair(t, of(40, 30))
	for n := 1; n <= 8; n++ {
		x.all(api.OK, mkdir(strings.Repeat("/a", n)), mkdir("/b"+strings.Repeat("/b", n-1)))
	}
	x.all(api.LongName, mkdir(strings.Repeat("/a", 9)))
	x.all(api.OK, rename("/b", strings.Repeat("/a", 7)+"/b"))
	x.all(api.Invalid, rename("/a", strings.Repeat("/a", 8)))
}

// someWay is a path: most often one of the tree's, or a name in one of its directories; now and then none at all.
func someWay(s *source, tree []model.File, kind int) string {
	if s.next(40) == 0 {
		return []string{"", "a", "/a/", "/" + long(25), "/a/..", strings.Repeat("/a", 9)}[s.next(6)]
	}
	f := tree[s.next(len(tree))]
	for range 4 {
		if f.Kind != kind && kind != 0 {
			f = tree[s.next(len(tree))]
		}
	}
	if s.next(4) > 0 {
		return f.Path
	}
	return strings.TrimSuffix(f.Path, "/") + "/" + someName(s) + []string{"", "", "/b", "/b/c"}[s.next(4)]
}

func someName(s *source) string {
	return []string{"a", "b", "c", "a!", "d", "e", "f", long(24)}[s.next(8)]
}

// newWay is a name in a directory of the tree, if that is found soon.
func newWay(s *source, tree []model.File) string {
	if s.next(4) == 0 {
		return someWay(s, tree, 0)
	}
	f := tree[s.next(len(tree))]
	for range 4 {
		if f.Kind != api.KindDir {
			f = tree[s.next(len(tree))]
		}
	}
	return strings.TrimSuffix(f.Path, "/") + "/" + someName(s)
}

// somePlace is a byte of a file: near an edge of a block, or of what blocks name.
func somePlace(s *source) int {
	edges := []int{0, 128, 256, 384, 512, 640, 768, 896, 128 * 20, 128 * 69, 128 * 70, 128 * 71, 128 * 133, 128 * 134, 128 * 135, 533248 - 1024, 533248 - 128, 533248}
	many := len(edges)
	if s.next(3) > 0 {
		many = 8
	}
	return max(0, edges[s.next(many)]+s.next(5)-2)
}

// random is an operation that the tree might bear, or might not.
func random(s *source, tree []model.File) api.Op {
	kinds := []int{1, 1, 1, 2, 2, 3, 3, 3, 3, 3, 4, 4, 5, 5, 6, 7, 8, 8, 9, 9, 10, 11, 11, 11}
	op := api.Op{Kind: kinds[s.next(len(kinds))], At: somePlace(s), N: s.next(1025), To: newWay(s, tree)}
	switch op.Kind {
	case api.OpCreate, api.OpMkdir:
		op.Path = newWay(s, tree)
	case api.OpWrite, api.OpTruncate, api.OpRead, api.OpLink, api.OpUnlink:
		op.Path = someWay(s, tree, api.KindFile)
	default:
		op.Path = someWay(s, tree, 0)
	}
	if op.Kind == api.OpTruncate {
		op.N = somePlace(s)
	}
	switch s.next(60) {
	case 0:
		op.At = odd()[s.next(len(odd()))]
	case 1:
		op.N = odd()[s.next(len(odd()))]
	case 2:
		op.Kind = s.next(20) - 4
	}
	if s.next(10) > 0 {
		op.Data = strings.Repeat(string([]byte{byte(s.next(256))}), []int{1, 2, 127, 128, 129, 300, 600, 1023, 1024, 1025}[s.next(10)])
	}
	return op
}

// answer is what an operation of a kind told.
type answer struct {
	kind int
	e    api.Errno
}

// 17.2 to 17.4, 18.3, P3: long runs against the model, in which every answer is told, and every error.
func TestRuns(t *testing.T) {
	seen := map[answer]int{}
	for run := range 80 {
		s := &source{uint32(run)}
		x := newPair(t, of([]int{4, 7, 15, 40, 200}[run%5], []int{2, 5, 9, 30}[run%4]))
		for range 250 {
			op := random(s, x.m.Tree())
			r, _ := x.do(op)
			seen[answer{op.Kind, r.E}]++
		}
	}
	both := []api.Errno{api.OK, api.Invalid, api.LongName, api.NotDir, api.NoEntry}
	more := map[int][]api.Errno{
		1: {api.Exists, api.NoSpace}, 2: {api.Exists, api.NoSpace}, 3: {api.IsDir, api.TooBig, api.NoSpace}, 4: {api.IsDir, api.TooBig}, 5: {api.IsDir},
		8: {api.IsDir, api.Exists, api.NoSpace}, 9: {api.IsDir}, 10: {api.NotEmpty}, 11: {api.Exists, api.NoSpace},
	}
	for kind := 1; kind <= 11; kind++ {
		for _, e := range append(more[kind], both...) {
			if seen[answer{kind, e}] < 3 {
				t.Errorf("operation %d answered %v %d times", kind, e, seen[answer{kind, e}])
			}
		}
	}
}

// garbage are the blocks of a file system, or of none, of which some bytes are others: numbers of blocks and inodes most often.
func garbage(t *testing.T, r *source, s api.Shape) []string {
	x := newPair(t, s)
	for range r.next(60) {
		x.do(random(r, x.m.Tree()))
	}
	wild := r.next(3) == 0
	for b := s.Journal + 1; b < s.Blocks; b++ {
		text := []byte(x.blocks[b])
		for range r.next(4) {
			text[r.next(128)] = byte([]int{r.next(256), r.next(s.Blocks), r.next(s.Inodes + 1), 0}[r.next(4)])
		}
		if wild {
			for k := 0; k < 128 && b > s.Journal+2+s.Inodes/4; k += 2 {
				text[k] = byte([]int{0, r.next(256), s.Journal + r.next(s.Blocks-s.Journal)}[r.next(3)])
				text[k+1] = byte(r.next(40) / 39 * r.next(4))
			}
		}
		x.blocks[b] = string(text)
	}
	return x.blocks
}

// P1, R4, 17.4: whatever the blocks hold, every call ends; it tells ErrTree and nothing else, or a result, and few changes of what is there.
func TestGarbage(t *testing.T) {
	seen := map[api.Errno]int{}
	for seed := range 400 {
		r := &source{uint32(seed)}
		s := []api.Shape{of(4, 4), of(16, 8), of(120, 9), of(60, 30)}[seed%4]
		blocks := garbage(t, r, s)
		m, _ := model.New(s)
		for _, op := range stock() {
			m.Do(op)
		}
		for range 40 {
			op := random(r, m.Tree())
			got, c, e := Do(s, blocks, op)
			again, l, f := Do(s, blocks, op)
			if !same(got, again) || !slices.Equal(c, l) || e != f {
				t.Fatalf("%+v: %+v and %+v", op, got, again)
			}
			seen[e]++
			if e != api.OK && (e != api.ErrTree || !same(got, api.Result{}) || len(c) != 0) || got.E != api.OK && (len(c) != 0 || !same(got, failed(got.E))) {
				t.Fatalf("%+v: %+v, %v, %v", op, got, blocksOf(c), e)
			}
			checkChanges(t, s, blocks, c)
			blocks = apply(blocks, c)
		}
	}
	if seen[api.OK] < 100 || seen[api.ErrTree] < 100 {
		t.Errorf("%v", seen)
	}
}

// R3, R6: what is handed in is not changed, spare room too, and what was told once stays though it is changed.
func TestMemory(t *testing.T) {
	x := newPair(t, of(20, 9), stock()...)
	room := append(slices.Clone(x.blocks), "spare", "room")
	given := room[:x.s.Blocks]
	for _, op := range []api.Op{list("/d"), create("/d/h"), unlink("/d/g")} {
		r, c, _ := Do(x.s, given, op)
		names := slices.Clone(r.Names)
		clear(c[:cap(c)])
		clear(r.Names[:cap(r.Names)])
		if !slices.Equal(given, x.blocks) || room[x.s.Blocks] != "spare" || room[x.s.Blocks+1] != "room" {
			t.Fatalf("%+v: the blocks are changed", op)
		}
		if again, _, _ := Do(x.s, given, op); !slices.Equal(again.Names, names) {
			t.Errorf("%v, want %v", again.Names, names)
		}
	}
	l, _ := Format(x.s)
	clear(l[:cap(l)])
	if again, _ := Format(x.s); again[0].Block != 22 || len(again[0].Data) != api.BlockSize {
		t.Errorf("%v", again)
	}
}

// script are operations of which some fail; between them they make the journal go round.
func script() []api.Op {
	return []api.Op{
		mkdir("/d"), create("/d/f"), write("/d/f", 128*69+1, long(200)), create("/d/f"), link("/d/f", "/g"), write("/g", 5, "hello"),
		mkdir("/e"), rename("/d", "/e/d"), cut("/g", 128*70), unlink("/g"), rmdir("/e"), unlink("/e/d/f"), rmdir("/e/d"), write("/x", 0, "x"), rename("/e", "/z"),
	}
}

// runTo does the script on a device, so many acts of it; it tells how many operations were done, and whether the script is at its end.
func runTo(t *testing.T, s api.Shape, acts int) (*dev.Dev, int, bool) {
	t.Helper()
	l, _ := Format(s)
	d, e := mend.Format(s, l)
	if e != api.OK {
		t.Fatal(e)
	}
	st := opened(t, d)
	for _, op := range script() {
		_, c, e := Do(s, blocksIn(st), op)
		if e != api.OK {
			t.Fatalf("%+v: %v", op, e)
		}
		if e := st.Commit(c); e != api.OK {
			t.Fatalf("%+v: Commit: %v", op, e)
		}
		for st.Busy() {
			if acts == 0 {
				return d, st.Count(), false
			}
			acts--
			st.Step()
		}
	}
	return d, st.Count(), true
}

func opened(t *testing.T, d *dev.Dev) *mend.Store {
	t.Helper()
	st, e := mend.Open(d)
	if e != api.OK {
		t.Fatalf("Open: %v", e)
	}
	for st.Busy() {
		st.Step()
	}
	return st
}

func blocksIn(st *mend.Store) []string {
	out := []string{}
	for b := range st.Shape().Blocks {
		data, _ := st.Read(b)
		out = append(out, data)
	}
	return out
}

// treeBehind is the model's tree behind so many operations of the script.
func treeBehind(s api.Shape, many int) []model.File {
	m, _ := model.New(s)
	for _, op := range script()[:many] {
		m.Do(op)
	}
	return m.Tree()
}

// 17.3: behind a crash at every act, with many choices of what lasts, the blocks say the tree behind the operations that were done, or that and the one under way.
func TestCrashes(t *testing.T) {
	s := api.Shape{Blocks: 64, Journal: 20, Inodes: 9}
	for acts, over := 0, false; !over; acts++ {
		for pick := range 24 {
			var d *dev.Dev
			done := 0
			d, done, over = runTo(t, s, acts)
			picks := []bool{}
			for i := range d.Waits() {
				picks = append(picks, pick == 1 || pick > 1 && (pick*7+i*(pick%5+1))%3 != 0)
			}
			d.Crash(picks, pick%2)
			st := opened(t, d)
			if st.Count() < done || st.Count() > done+1 {
				t.Fatalf("%d acts: %d operations, %d were done", acts, st.Count(), done)
			}
			tree, e := fsck.Tree(s, blocksIn(st))
			if e != api.OK || !sameTree(tree, treeBehind(s, st.Count())) {
				t.Fatalf("%d acts: %v, %v, want %v", acts, tree, e, treeBehind(s, st.Count()))
			}
		}
	}
}
