package vsr

import (
	"math"
	"slices"
	"strings"
	"testing"

	"cartulary/api"
	"cartulary/msg"
	"cartulary/replog"
)

// source is a source of numbers, always the same ones.
type source struct{ x uint32 }

func (s *source) next(n int) int {
	s.x = s.x*1664525 + 1013904223
	return int(s.x>>8) % n
}

var small = api.Shape{Blocks: 40, Journal: 20, Inodes: 8}

func create(path string) api.Op { return api.Op{Kind: api.OpCreate, Path: path} }

func node(t *testing.T, id, n int) *Node {
	t.Helper()
	x, e := New(id, n, small)
	if e != api.OK || x == nil {
		t.Fatalf("New(%d, %d): %v", id, n, e)
	}
	return x
}

func stands(t *testing.T, x *Node, want Stand) {
	t.Helper()
	if s := x.Stand(); s != want {
		t.Fatalf("Stand: %+v; want %+v", s, want)
	}
}

// nothing holds that a call did nothing.
func nothing(t *testing.T, d Done) {
	t.Helper()
	if len(d.Outs) != 0 || len(d.Replies) != 0 {
		t.Fatalf("%v", d)
	}
}

// replies holds that a call did nothing but one reply.
func replies(t *testing.T, d Done, want api.Reply) {
	t.Helper()
	if len(d.Outs) != 0 || len(d.Replies) != 1 {
		t.Fatalf("%v; want %v", d, want)
	}
	if r := d.Replies[0]; r.Node != want.Node || r.Client != want.Client || r.Req != want.Req || !sameResult(r.Result, want.Result) {
		t.Fatalf("%v; want %v", r, want)
	}
}

// refused holds that a call on node 0 did nothing but to be refused.
func refused(t *testing.T, x *Node, client, req int, op api.Op, want api.Errno) {
	t.Helper()
	was, log := x.Stand(), x.Log()
	replies(t, x.Call(client, req, op), api.Reply{Node: x.id, Client: client, Req: req, Result: api.Result{E: want}})
	stands(t, x, was)
	if !slices.Equal(x.Log(), log) {
		t.Fatalf("the log is changed")
	}
}

// work works until nothing more is done, and tells what was replied.
func work(t *testing.T, x *Node) []api.Reply {
	t.Helper()
	l := []api.Reply{}
	for idle := 0; idle < 2; {
		was := x.Stand().Applied
		busy := x.store.Busy()
		l = append(l, x.Work().Replies...)
		if !busy && !x.store.Busy() && was == x.Stand().Applied {
			idle++
		}
	}
	return l
}

// did is a node that has done some operations, as requests of client 1 from 1 on.
func did(t *testing.T, ops ...api.Op) *Node {
	t.Helper()
	x := node(t, 0, 1)
	for i, op := range ops {
		nothing(t, x.Call(1, i+1, op))
	}
	x.Flush()
	if l := work(t, x); len(l) != len(ops) {
		t.Fatalf("%v", l)
	}
	return x
}

func TestConstants(t *testing.T) {
	if MaxLog != 40000 || MaxSend != 8 {
		t.Error(MaxLog, MaxSend)
	}
}

// A create changes three blocks: it is begun, and then come the writes of four blocks, a flush, the header, and a flush.
func TestExample(t *testing.T) {
	x := node(t, 0, 1)
	nothing(t, x.Call(1, 1, create("/a")))
	stands(t, x, Stand{Up: true, Normal: true, Len: 1})
	nothing(t, x.Work())
	nothing(t, x.Flush())
	stands(t, x, Stand{Up: true, Normal: true, Len: 1, Flushed: 1, Commit: 1})
	waits := []int{}
	for range 7 {
		nothing(t, x.Work())
		waits = append(waits, x.Waits())
		stands(t, x, Stand{Up: true, Normal: true, Len: 1, Flushed: 1, Commit: 1})
	}
	if !slices.Equal(waits, []int{0, 1, 2, 3, 4, 0, 1}) {
		t.Errorf("%v wait", waits)
	}
	replies(t, x.Work(), api.Reply{Client: 1, Req: 1})
	stands(t, x, Stand{Up: true, Normal: true, Len: 1, Flushed: 1, Commit: 1, Applied: 1})
	nothing(t, x.Work())
}

// 24.1

func TestNew(t *testing.T) {
	for _, n := range []int{1, 3, 5, 7} {
		for id := range n {
			x := node(t, id, n)
			stands(t, x, Stand{Up: true, Normal: true})
			if len(x.Log()) != 0 || x.Waits() != 0 || len(x.Disk()) != small.Blocks {
				t.Errorf("node %d of %d: %v, %d wait, %d blocks", id, n, x.Log(), x.Waits(), len(x.Disk()))
			}
			checkTree(t, small, x.Disk(), nil, 0)
		}
		for _, id := range []int{math.MinInt, -1, n, n + 1, 100, math.MaxInt} {
			notNew(t, id, n, small, api.ErrArg)
		}
	}
	for _, n := range []int{math.MinInt, -3, -1, 0, 2, 4, 6, 8, 9, math.MaxInt} {
		notNew(t, 0, n, small, api.ErrArg)
		notNew(t, 0, n, api.Shape{}, api.ErrArg)
	}
	for _, s := range []api.Shape{{}, {Blocks: 40, Journal: 19, Inodes: 8}, {Blocks: 20, Journal: 20, Inodes: 8}, {Blocks: 1025, Journal: 20, Inodes: 8}, {Blocks: 40, Journal: 20, Inodes: 65}, {Blocks: -1, Journal: -1, Inodes: -1}} {
		notNew(t, 2, 3, s, api.ErrShape)
		notNew(t, 3, 3, s, api.ErrArg)
	}
	for _, s := range []api.Shape{{Blocks: 1024, Journal: 256, Inodes: 64}, {Blocks: 1024, Journal: 20, Inodes: 2}} {
		if x, e := New(6, 7, s); e != api.OK || len(x.Disk()) != s.Blocks {
			t.Errorf("%v: %v", s, e)
		}
	}
}

func notNew(t *testing.T, id, n int, s api.Shape, want api.Errno) {
	t.Helper()
	if x, e := New(id, n, s); x != nil || e != want {
		t.Errorf("New(%d, %d, %v): %v, %v; want %v", id, n, s, x, e, want)
	}
}

// isDown holds what a node tells that is not up.
func isDown(t *testing.T, x *Node) {
	t.Helper()
	disk, waits := x.Disk(), x.Waits()
	nothing(t, x.Call(1, 1, create("/a")))
	nothing(t, x.Call(-1, 0, api.Op{}))
	nothing(t, x.Message(1, bytesOf(t, msg.Message{Kind: msg.Change, View: 7})))
	nothing(t, x.Message(0, ""))
	for range 30 {
		nothing(t, x.Tick())
	}
	nothing(t, x.Flush())
	nothing(t, x.Work())
	for _, torn := range []int{-1, 0, 1, api.MaxBlocks, api.MaxBlocks + 1} {
		if e := x.Crash([]bool{true}, torn); e != api.ErrState {
			t.Fatalf("Crash: %v", e)
		}
	}
	stands(t, x, Stand{})
	if len(x.Log()) != 0 || !slices.Equal(x.Disk(), disk) || x.Waits() != waits {
		t.Fatalf("%v, %d blocks, %d wait", x.Log(), len(x.Disk()), x.Waits())
	}
}

func TestNilNode(t *testing.T) {
	for _, x := range []*Node{nil, {}} {
		isDown(t, x)
		nothing(t, x.Start())
		isDown(t, x)
		if len(x.Disk()) != 0 || x.Waits() != 0 {
			t.Errorf("%v, %d wait", x.Disk(), x.Waits())
		}
	}
}

func TestDown(t *testing.T) {
	x := did(t, create("/a"), create("/a"))
	nothing(t, x.Call(1, 3, create("/b")))
	was, disk := x.Stand(), x.Disk()
	for _, torn := range []int{math.MinInt, -1, api.MaxBlocks + 1, math.MaxInt} {
		if e := x.Crash(nil, torn); e != api.ErrArg {
			t.Errorf("Crash(none, %d): %v", torn, e)
		}
		stands(t, x, was)
	}
	if e := x.Crash(nil, api.MaxBlocks); e != api.OK {
		t.Fatal(e)
	}
	isDown(t, x)
	if !slices.Equal(x.Disk(), disk) {
		t.Error("the disk is changed")
	}
	nothing(t, x.Start())
	stands(t, x, Stand{Up: true, Normal: true, Len: 2, Flushed: 2, Commit: 2, Applied: 2})
	// One that is up stays as it is.
	nothing(t, x.Call(1, 3, create("/b")))
	nothing(t, x.Start())
	stands(t, x, Stand{Up: true, Normal: true, Len: 3, Flushed: 2, Commit: 2, Applied: 2})
}

// What Crash is handed is the device's: which of its writes are done, and how much of the first other one.
func TestCrashPicks(t *testing.T) {
	for _, c := range []struct {
		picks []bool
		torn  int
		lasts []bool
	}{
		{nil, 0, []bool{false, false, false}},
		{nil, 1, []bool{true, false, false}},
		{[]bool{true}, 0, []bool{true, false, false}},
		{[]bool{true, false, true}, 0, []bool{true, false, true}},
		{[]bool{false, true, true, true}, 1, []bool{true, true, true}},
	} {
		x := node(t, 0, 1)
		x.Call(1, 1, create("/a"))
		x.Flush()
		was := x.Disk()
		for range 4 {
			x.Work()
		}
		seen := x.Disk()
		if x.Waits() != 3 {
			t.Fatalf("%d wait", x.Waits())
		}
		x.Crash(c.picks, c.torn)
		for i, lasts := range c.lasts {
			want := was[1+1+i]
			if lasts {
				want = seen[1+1+i]
			}
			if x.Disk()[1+1+i] != want {
				t.Errorf("%v, %d: block %d", c.picks, c.torn, 2+i)
			}
		}
		if x.Waits() != 0 {
			t.Errorf("%d wait", x.Waits())
		}
	}
}

// 24.2

func TestStand(t *testing.T) {
	x := did(t, create("/a"), create("/b"), create("/c"))
	x.Call(1, 4, create("/d"))
	x.Flush()
	x.Call(1, 5, create("/e"))
	stands(t, x, Stand{Up: true, Normal: true, Len: 5, Flushed: 4, Commit: 4, Applied: 3})
	want := []api.Entry{}
	for i, p := range []string{"/a", "/b", "/c", "/d", "/e"} {
		want = append(want, api.Entry{Client: 1, Req: i + 1, Op: create(p)})
	}
	if l := x.Log(); !slices.Equal(l, want) {
		t.Errorf("%v", l)
	}
	// The disk is as it is seen, with what waits.
	x.Work()
	disk := x.Disk()
	x.Work()
	if x.Waits() != 1 || slices.Equal(disk, x.Disk()) || len(disk) != small.Blocks {
		t.Errorf("%d wait", x.Waits())
	}
	x.Crash(nil, 0)
	if !slices.Equal(disk, x.Disk()) {
		t.Error("what waited lasts")
	}
}

// Calls

func TestCallRefused(t *testing.T) {
	long := strings.Repeat("x", 4097)
	wrong := []struct {
		client, req int
		op          api.Op
	}{
		{-1, 1, create("/a")}, {api.MaxSeq + 1, 1, create("/a")}, {math.MinInt, 1, create("/a")},
		{1, 0, create("/a")}, {1, -1, create("/a")}, {1, api.MaxSeq + 1, create("/a")}, {1, math.MaxInt, create("/a")},
		{1, 1, api.Op{Path: long}}, {1, 1, api.Op{To: long}}, {1, 1, api.Op{Data: long}},
	}
	leads, follows, changes := node(t, 0, 3), node(t, 1, 3), node(t, 0, 3)
	changes.Message(1, bytesOf(t, msg.Message{Kind: msg.Change, View: 3}))
	changes.Flush()
	for _, w := range wrong {
		refused(t, leads, w.client, w.req, w.op, api.ErrArg)
		// Where it does not lead, that comes first.
		refused(t, follows, w.client, w.req, w.op, api.ErrState)
		refused(t, changes, w.client, w.req, w.op, api.ErrState)
	}
	refused(t, follows, 1, 1, create("/a"), api.ErrState)
	// Node 0 is the primary of view 3, but not normal in it.
	refused(t, changes, 1, 1, create("/a"), api.ErrState)
	stands(t, changes, Stand{Up: true, View: 3})
	// Other numbers of an operation may be any: what is wrong in them its result tells.
	x := node(t, 0, 1)
	text := long[:4096]
	for i, c := range []struct {
		client, req int
		op          api.Op
	}{{0, 1, api.Op{}}, {api.MaxSeq, api.MaxSeq, api.Op{Kind: math.MinInt, At: math.MaxInt, N: -1}}, {1, 5, api.Op{Kind: 99, Path: text, To: text, Data: text}}} {
		nothing(t, x.Call(c.client, c.req, c.op))
		stands(t, x, Stand{Up: true, Normal: true, Len: i + 1})
	}
	x.Flush()
	for _, r := range work(t, x) {
		if r.Result.E != api.Invalid {
			t.Errorf("%v", r)
		}
	}
}

func TestCallAgain(t *testing.T) {
	x := node(t, 0, 1)
	nothing(t, x.Call(1, 5, create("/a")))
	nothing(t, x.Call(2, 5, create("/a")))
	// It is there already, whatever the operation is now; it is told once.
	nothing(t, x.Call(1, 5, create("/a")))
	nothing(t, x.Call(1, 5, create("/other")))
	// A greater one is there.
	for _, req := range []int{1, 2, 4} {
		nothing(t, x.Call(1, req, create("/b")))
	}
	stands(t, x, Stand{Up: true, Normal: true, Len: 2})
	x.Flush()
	l := work(t, x)
	if len(l) != 2 || l[0].Client != 1 || l[0].Result.E != api.OK || l[1].Client != 2 || l[1].Result.E != api.Exists {
		t.Fatalf("%v", l)
	}
	for range 3 {
		replies(t, x.Call(1, 5, create("/a")), api.Reply{Client: 1, Req: 5})
		replies(t, x.Call(2, 5, create("/other")), api.Reply{Client: 2, Req: 5, Result: api.Result{E: api.Exists}})
		nothing(t, x.Call(1, 4, create("/b")))
	}
	if len(x.calls) != 0 {
		t.Errorf("%v wait", x.calls)
	}
	// One that is not the client's last is told too.
	nothing(t, x.Call(1, 6, create("/c")))
	replies(t, x.Call(1, 5, create("/a")), api.Reply{Client: 1, Req: 5})
	nothing(t, x.Call(3, 1, create("/c")))
	stands(t, x, Stand{Up: true, Normal: true, Len: 4, Flushed: 2, Commit: 2, Applied: 2})
	refused(t, x, 1, 0, create("/a"), api.ErrArg)
}

// A call that is made again while its entry is applied is told with the last act.
func TestCallMeanwhile(t *testing.T) {
	x := node(t, 0, 1)
	x.Call(1, 1, create("/a"))
	x.Flush()
	for range 4 {
		x.Work()
		nothing(t, x.Call(1, 1, create("/a")))
	}
	if l := work(t, x); len(l) != 1 {
		t.Errorf("%v", l)
	}
}

// filled is a node whose log's entries have so many bytes.
func filled(t *testing.T, bytes int) *Node {
	t.Helper()
	x := node(t, 0, 1)
	req := 0
	for bytes > 0 {
		// An entry without texts has 9 bytes, and one more for the length of a long text.
		many := min(bytes, 4096+10)
		if rest := bytes - many; rest > 0 && rest < 300 {
			many -= 300
		}
		req++
		nothing(t, x.Call(1, req, api.Op{Data: strings.Repeat("x", many-10)}))
		bytes -= many
	}
	return x
}

func TestCallFull(t *testing.T) {
	for _, bytes := range []int{39990, 39991, 40000} {
		x := filled(t, bytes)
		if size, e := msg.Size(x.Log()); size != bytes || e != api.OK {
			t.Fatalf("%d bytes; want %d", size, bytes)
		}
		room := 40000 - bytes
		if room < 9 {
			refused(t, x, 2, 1, api.Op{}, api.ErrFull)
			continue
		}
		refused(t, x, 2, 1, api.Op{Path: strings.Repeat("x", room-8)}, api.ErrFull)
		nothing(t, x.Call(2, 1, api.Op{Path: strings.Repeat("x", room-9)}))
		refused(t, x, 2, 2, api.Op{}, api.ErrFull)
		// What is there already, or too late, is asked ahead of the room.
		nothing(t, x.Call(2, 1, api.Op{}))
		nothing(t, x.Call(1, 1, api.Op{}))
		refused(t, x, 2, 0, api.Op{}, api.ErrArg)
	}
}

// A log has a most of entries too, though their bytes have room.
func TestCallMany(t *testing.T) {
	l := make([]api.Entry, replog.MaxLog-1)
	for i := range l {
		l[i] = api.Entry{Client: i % 128, Req: 1 + i/128}
	}
	x := node(t, 1, 3)
	x.Message(0, bytesOf(t, msg.Message{Kind: msg.Offer, View: 1, At: len(l), Entries: l}))
	stands(t, x, Stand{Up: true, Normal: true, View: 1, Len: replog.MaxLog - 1})
	x.Flush()
	nothing(t, x.Call(1, 100, api.Op{}))
	refused(t, x, 1, 101, api.Op{}, api.ErrFull)
	stands(t, x, Stand{Up: true, Normal: true, View: 1, Len: replog.MaxLog, Flushed: replog.MaxLog - 1})
}

// 24.4, 24.5

func TestDurable(t *testing.T) {
	x := did(t, create("/a"))
	x.Call(1, 2, create("/b"))
	x.Flush()
	x.Call(1, 3, create("/c"))
	x.Crash(nil, 0)
	x.Start()
	// What is not applied yet is committed when it is flushed anew.
	stands(t, x, Stand{Up: true, Normal: true, Len: 2, Flushed: 2, Commit: 1, Applied: 1})
	if l := work(t, x); len(l) != 0 {
		t.Errorf("%v", l)
	}
	nothing(t, x.Flush())
	stands(t, x, Stand{Up: true, Normal: true, Len: 2, Flushed: 2, Commit: 2, Applied: 1})
	// The call that waited is forgotten; its request is not.
	if l := work(t, x); len(l) != 0 {
		t.Errorf("%v", l)
	}
	replies(t, x.Call(1, 2, create("/b")), api.Reply{Client: 1, Req: 2})
	nothing(t, x.Call(1, 3, create("/a")))
	x.Flush()
	if l := work(t, x); len(l) != 1 || l[0].Result.E != api.Exists {
		t.Errorf("%v", l)
	}
}

// What was answered ahead of a crash is answered behind it, whatever it was.
func TestAnsweredAgain(t *testing.T) {
	ops := []api.Op{
		{Kind: api.OpMkdir, Path: "/d"}, create("/d/f"), create("/d/g"), {Kind: api.OpWrite, Path: "/d/f", At: 200, Data: "hello"},
		{Kind: api.OpRead, Path: "/d/f", At: 199, N: 9}, {Kind: api.OpList, Path: "/d"}, {Kind: api.OpStat, Path: "/d/f"}, {Kind: api.OpRmdir, Path: "/d"},
		{Kind: api.OpRename, Path: "/d", To: "/d/e"}, {Kind: api.OpUnlink, Path: "/d/g"}, {Kind: api.OpList, Path: "/d"}, {Kind: 77},
	}
	x := did(t, ops...)
	ask := func() []api.Reply {
		l := []api.Reply{}
		for i := range ops {
			l = append(l, x.Call(1, i+1, api.Op{}).Replies...)
		}
		return l
	}
	want := ask()
	if len(want) != len(ops) || !slices.Equal(want[5].Result.Names, []string{"f", "g"}) || want[4].Result.Data != "\x00hello" || want[6].Result.Size != 205 {
		t.Fatalf("%v", want)
	}
	// Ahead of its mending, in the midst of it, and behind it.
	for acts := range 12 {
		x.Crash(nil, 0)
		x.Start()
		for range acts {
			nothing(t, x.Work())
		}
		if l := ask(); !slices.EqualFunc(l, want, func(a, b api.Reply) bool { return a.Req == b.Req && sameResult(a.Result, b.Result) }) {
			t.Fatalf("%v; want %v", l, want)
		}
	}
}

// someCalls are the requests of a single node's client, of which some fail.
func someCalls() []api.Op {
	return []api.Op{
		{Kind: api.OpMkdir, Path: "/d"}, create("/d/f"), {Kind: api.OpWrite, Path: "/d/f", At: 700, Data: strings.Repeat("y", 300)}, create("/d/f"),
		{Kind: api.OpList, Path: "/d"}, {Kind: api.OpLink, Path: "/d/f", To: "/g"}, {Kind: api.OpTruncate, Path: "/g", N: 720}, {Kind: api.OpUnlink, Path: "/g"},
		{Kind: api.OpRead, Path: "/d/f", At: 690, N: 100}, {Kind: api.OpRename, Path: "/d/f", To: "/f"}, {Kind: api.OpRmdir, Path: "/d"},
	}
}

// 24.4 to 24.6: a single node crashes behind each number of works; all requests are called anew until they are replied.
func TestAlone(t *testing.T) {
	ops := someCalls()
	log := []api.Entry{}
	for i, op := range ops {
		log = append(log, api.Entry{Client: 4, Req: i + 1, Op: op})
	}
	for works := 1; works < 130; works++ {
		r := &source{uint32(works)}
		x := node(t, 0, 1)
		told := map[int]api.Result{}
		for i, left := 0, works; len(told) < len(ops); i++ {
			if i == 400 {
				t.Fatalf("%d works: %v", works, told)
			}
			next := len(told) + 1
			d := x.Call(4, next, ops[next-1])
			x.Flush()
			for range 9 {
				if left--; left == 0 {
					left = works + r.next(40)
					crashed(t, r, x, log)
				}
				d.Replies = append(d.Replies, x.Work().Replies...)
			}
			for _, y := range d.Replies {
				told[y.Req] = y.Result
			}
		}
		want := did(t, ops...)
		for i, y := range want.results {
			if !sameResult(told[i+1], y) {
				t.Fatalf("request %d: %v; want %v", i+1, told[i+1], y)
			}
		}
		if !slices.Equal(x.Log(), log) {
			t.Fatalf("%v", x.Log())
		}
		work(t, x)
		checkTree(t, small, x.Disk(), log, len(log))
	}
}

// crashed has a single node crash and start.
func crashed(t *testing.T, r *source, x *Node, log []api.Entry) {
	t.Helper()
	was := x.Stand()
	checkTree(t, small, x.Disk(), log, was.Applied)
	picks := []bool{}
	for range x.Waits() {
		picks = append(picks, r.next(3) > 0)
	}
	if e := x.Crash(picks, r.next(2)); e != api.OK {
		t.Fatal(e)
	}
	checkTree(t, small, x.Disk(), log, was.Applied)
	nothing(t, x.Start())
	s := x.Stand()
	if s.Len != was.Flushed || s.Flushed != s.Len || s.Applied < was.Applied || s.Applied > was.Applied+1 || s.Commit != s.Applied || !slices.Equal(x.Log(), log[:s.Len]) {
		t.Fatalf("%+v behind %+v", s, was)
	}
}

// R3: what a node tells is new memory, and what it is handed is not kept.
func TestMemory(t *testing.T) {
	x := did(t, create("/a"), create("/b"), api.Op{Kind: api.OpList, Path: "/"})
	for range 2 {
		d := x.Call(1, 3, api.Op{})
		if !slices.Equal(d.Replies[0].Result.Names, []string{"a", "b"}) {
			t.Fatalf("%v", d)
		}
		clear(d.Replies[0].Result.Names[:cap(d.Replies[0].Result.Names)])
		clear(d.Replies[:cap(d.Replies)])
		l, disk := x.Log(), x.Disk()
		clear(l[:cap(l)])
		clear(disk[:cap(disk)])
	}
	if l := x.Log(); l[2].Op.Path != "/" || x.Disk()[0] == "" {
		t.Errorf("%v", l)
	}
	// The reply at the last act and the one behind it share nothing.
	x.Call(1, 4, api.Op{Kind: api.OpList, Path: "/"})
	x.Flush()
	l := work(t, x)
	clear(l[0].Result.Names)
	if d := x.Call(1, 4, api.Op{}); !slices.Equal(d.Replies[0].Result.Names, []string{"a", "b"}) {
		t.Errorf("%v", d)
	}
	// Behind a flush what is told is the caller's alone.
	y := node(t, 0, 3)
	y.Call(1, 1, create("/a"))
	d := y.Flush()
	clear(d.Outs[:cap(d.Outs)])
	y.Call(1, 2, create("/b"))
	if d := y.Flush(); len(d.Outs) != 2 || d.Outs[0].To != 1 || d.Outs[1].To != 2 {
		t.Errorf("%v", d)
	}
}
