package vsr

import (
	"slices"
	"strconv"
	"testing"

	"cartulary/api"
	"cartulary/bag"
	"cartulary/dev"
	"cartulary/fsck"
	"cartulary/mend"
	"cartulary/model"
	"cartulary/sum"
	"cartulary/view"
)

// mended is the file system of a device's blocks behind its mending, and how many transactions it has.
func mended(t *testing.T, disk []string) ([]string, int) {
	t.Helper()
	d, e := dev.New(len(disk))
	if e != api.OK {
		t.Fatalf("a device of %d blocks: %v", len(disk), e)
	}
	for i, b := range disk {
		d.Write(i, b)
	}
	st, e := mend.Open(d)
	if e != api.OK {
		t.Fatalf("the device can't be opened: %v", e)
	}
	for st.Busy() {
		st.Step()
	}
	out := make([]string, len(disk))
	for i := range out {
		out[i], _ = st.Read(i)
	}
	return out, st.Count()
}

// plainTree is the model's tree behind some entries.
func plainTree(t *testing.T, s api.Shape, l []api.Entry) []model.File {
	t.Helper()
	m, e := model.New(s)
	if e != api.OK {
		t.Fatal(e)
	}
	for _, x := range l {
		m.Do(x.Op)
	}
	return m.Tree()
}

func sameFile(a fsck.File, b model.File) bool {
	return a.Path == b.Path && a.Inode == b.Inode && a.Kind == b.Kind && a.Links == b.Links && a.Size == b.Size && slices.Equal(a.Blocks, b.Blocks) && a.Data == b.Data
}

// checkTree holds a device against the model: behind as many entries as it has transactions, at least so many.
func checkTree(t *testing.T, s api.Shape, disk []string, l []api.Entry, least int) {
	t.Helper()
	blocks, many := mended(t, disk)
	if many < least || many > len(l) {
		t.Fatalf("%d transactions; at least %d, at most %d", many, least, len(l))
	}
	tree, e := fsck.Tree(s, blocks)
	if want := plainTree(t, s, l[:many]); e != api.OK || !slices.EqualFunc(tree, want, sameFile) {
		t.Fatalf("the tree behind %d entries: %v, %v; want %v", many, tree, e, want)
	}
}

func sameResult(a, b api.Result) bool {
	return a.E == b.E && a.Data == b.Data && a.Kind == b.Kind && a.Links == b.Links && a.Size == b.Size && slices.Equal(a.Names, b.Names)
}

// kit is some nodes, a bag between them, and what is known of all of them.
type kit struct {
	t     *testing.T
	s     api.Shape
	nodes []*Node
	bag   *bag.Bag
	// history are the entries that are committed; plain does them, and results are what it answers.
	history []api.Entry
	plain   *model.Model
	results []api.Result
	// ops are the requests that were called, behind how many entries of the history they must stand, replied those that were replied, with the view of the node that did.
	ops     map[request]api.Op
	behind  map[request]int
	replied map[request]int
	// known is how many entries of the history there are up to the last one that was replied.
	known int
	// views are of each view the longest log that a node had that was normal in it.
	views map[int][]api.Entry
	seen  map[string]int
	// told is a sum of all that was sent and replied.
	told int
}

func newKit(t *testing.T, n int, s api.Shape) *kit {
	t.Helper()
	k := &kit{t: t, s: s, ops: map[request]api.Op{}, behind: map[request]int{}, replied: map[request]int{}, views: map[int][]api.Entry{}, seen: map[string]int{}}
	for i := range n {
		x, e := New(i, n, s)
		if e != api.OK {
			t.Fatal(e)
		}
		k.nodes = append(k.nodes, x)
	}
	k.bag, _ = bag.New(n)
	k.plain, _ = model.New(s)
	return k
}

// did puts what a node sent into the bag, and holds its replies, and all nodes, against what is known.
func (k *kit) did(node int, d Done) []api.Reply {
	k.t.Helper()
	for _, o := range d.Outs {
		k.bag.Put(bag.Message{From: node, To: o.To, Text: o.Text})
		k.told = sum.Of(strconv.Itoa(k.told) + strconv.Itoa(o.To) + o.Text)
	}
	k.check()
	for _, r := range d.Replies {
		k.checkReply(node, r)
		k.told = sum.Of(strconv.Itoa(k.told) + strconv.Itoa(r.Client) + strconv.Itoa(r.Req) + r.Result.Data)
	}
	return d.Replies
}

func isRefusal(r api.Result) bool {
	return r.E == api.ErrArg || r.E == api.ErrFull || r.E == api.ErrState
}

func (k *kit) checkReply(node int, r api.Reply) {
	k.t.Helper()
	if r.Node != node {
		k.t.Fatalf("node %d replied as %d", node, r.Node)
	}
	if isRefusal(r.Result) {
		k.seen["refused"]++
		if !sameResult(r.Result, api.Result{E: r.Result.E}) {
			k.t.Fatalf("a refusal: %v", r.Result)
		}
		return
	}
	q := request{r.Client, r.Req}
	at := slices.IndexFunc(k.history, func(e api.Entry) bool { return requestOf(e) == q })
	if at < 0 || !sameResult(r.Result, k.results[at]) {
		k.t.Fatalf("request %v: %v, at %d of the history; %v", q, r.Result, at, k.results)
	}
	k.seen["replied"]++
	k.known = max(k.known, at+1)
	v := k.nodes[node].Stand().View
	if was, ok := k.replied[q]; !ok || v < was {
		k.replied[q] = v
	}
}

// check holds the nodes that are up against one another, and against the history.
func (k *kit) check() {
	k.t.Helper()
	for i, x := range k.nodes {
		s := x.Stand()
		if !s.Up {
			continue
		}
		l := x.Log()
		if s.Len != len(l) || s.Flushed > s.Len || s.Commit > s.Len || s.Applied > s.Commit {
			k.t.Fatalf("node %d: %+v", i, s)
		}
		k.grow(l[:s.Commit])
		if s.Normal {
			k.seen["normal"]++
			k.oneLog(i, s, l)
		}
	}
	for _, x := range k.nodes {
		k.kept(x)
	}
}

// grow holds what a node knows to be committed against the history, of which one is a beginning of the other.
func (k *kit) grow(l []api.Entry) {
	k.t.Helper()
	n := min(len(l), len(k.history))
	if !slices.Equal(l[:n], k.history[:n]) {
		k.t.Fatalf("committed are %v and %v", l, k.history)
	}
	for _, e := range l[n:] {
		k.checkEntry(e)
		k.history = append(k.history, e)
		k.results = append(k.results, k.plain.Do(e.Op))
	}
}

// checkEntry holds a new entry of the history against those ahead, and against what was called.
func (k *kit) checkEntry(e api.Entry) {
	k.t.Helper()
	if op, ok := k.ops[requestOf(e)]; !ok || op != e.Op {
		k.t.Fatalf("nobody called %v", e)
	}
	if behind := k.behind[requestOf(e)]; len(k.history) < behind {
		k.t.Fatalf("%v was called behind %d entries that were replied, and stands at %d", e, behind, len(k.history))
	}
	for _, was := range k.history {
		if was.Client == e.Client && was.Req >= e.Req {
			k.t.Fatalf("%v is behind %v", e, was)
		}
	}
}

// oneLog holds a normal node's log against all that nodes had in the same view.
func (k *kit) oneLog(i int, s Stand, l []api.Entry) {
	k.t.Helper()
	had := k.views[s.View]
	n := min(len(l), len(had))
	// What a primary did not flush nobody else has: what it flushed, and others have, is of one log.
	if i != s.View%len(k.nodes) {
		if !slices.Equal(l[:n], had[:n]) {
			k.t.Fatalf("view %d has %v and %v", s.View, l, had)
		}
		if len(l) > len(had) {
			k.views[s.View] = l
		}
		return
	}
	if len(l) < len(had) || !slices.Equal(l[:n], had[:n]) {
		k.t.Fatalf("view %d's primary has %v; others %v", s.View, l, had)
	}
}

// kept holds a primary against what was replied in no later view.
func (k *kit) kept(x *Node) {
	k.t.Helper()
	s := x.Stand()
	if p, _ := view.Primary(len(k.nodes), s.View); !s.Up || !s.Normal || p != x.id {
		return
	}
	l := x.Log()
	for i, e := range k.history {
		if v, ok := k.replied[requestOf(e)]; ok && v <= s.View && (i >= len(l) || l[i] != e) {
			k.t.Fatalf("view %d's primary does not have %v at %d", s.View, e, i)
		}
	}
}

func (k *kit) call(node, client, req int, op api.Op) []api.Reply {
	k.t.Helper()
	q := request{client, req}
	if _, ok := k.ops[q]; !ok {
		k.ops[q], k.behind[q] = op, k.known
	}
	return k.did(node, k.nodes[node].Call(client, req, k.ops[q]))
}

func (k *kit) deliver(i int) []api.Reply {
	k.t.Helper()
	m, e := k.bag.Deliver(i)
	if e != api.OK {
		return nil
	}
	return k.did(m.To, k.nodes[m.To].Message(m.From, m.Text))
}

func (k *kit) crash(r *source, node int) {
	k.t.Helper()
	x := k.nodes[node]
	was := x.Stand()
	lasting := x.Log()[:was.Flushed]
	picks := []bool{}
	for range x.Waits() {
		picks = append(picks, r.next(2) == 0)
	}
	if e := x.Crash(picks, r.next(3)); e != api.OK && was.Up {
		k.t.Fatal(e)
	}
	if !was.Up {
		return
	}
	k.seen["crash"]++
	if _, many := mended(k.t, x.Disk()); many < was.Applied {
		k.t.Fatalf("%d transactions; %d were applied", many, was.Applied)
	}
	if r.next(3) == 0 {
		k.start(node)
		if s := x.Stand(); s.Applied < was.Applied || s.Commit != s.Applied || s.Flushed != s.Len || !slices.Equal(x.Log()[:len(lasting)], lasting) {
			k.t.Fatalf("%+v behind %+v", s, was)
		}
	}
}

func (k *kit) start(node int) {
	k.t.Helper()
	k.did(node, k.nodes[node].Start())
}

func (k *kit) trees() {
	k.t.Helper()
	for _, x := range k.nodes {
		checkTree(k.t, k.s, x.Disk(), k.history, x.Stand().Applied)
	}
}

// someOp is an operation on few names, so that many of them have something to do.
func someOp(r *source) api.Op {
	names := []string{"/a", "/b", "/d", "/d/a", "/d/b", "/", "", "/e/f"}
	op := api.Op{Kind: 1 + r.next(12), Path: names[r.next(len(names))], To: names[r.next(len(names))], At: r.next(300), N: r.next(300)}
	if r.next(2) == 0 {
		op.Kind = []int{api.OpCreate, api.OpMkdir, api.OpWrite}[r.next(3)]
	}
	if op.Kind == api.OpWrite {
		op.Data = string(make([]byte, r.next(200))) + "x"
	}
	return op
}

// someStep is one thing that happens.
func (k *kit) someStep(r *source, calm int) {
	k.t.Helper()
	node := r.next(len(k.nodes))
	x := k.nodes[node]
	switch c := r.next(100); {
	case c < 12:
		client := r.next(3)
		k.call(node, client, max(1, r.next(3)+k.greatest(client)-1), someOp(r))
	case c < 50:
		if n := len(k.bag.List()); n > 0 {
			k.deliver(r.next(n))
		}
	case c < 52:
		k.bag.Drop(r.next(20))
	case c < 54:
		k.bag.Twice(r.next(20))
	case c < 66:
		k.did(node, x.Flush())
	case c < 86:
		for range r.next(12) {
			k.did(node, x.Work())
		}
	case c < 96:
		for range 1 + r.next(6)/5*r.next(9) {
			k.did(node, x.Tick())
		}
	case c < 96+calm:
		k.start(node)
	default:
		k.crash(r, node)
	}
}

func (k *kit) greatest(client int) int {
	most := 0
	for q := range k.ops {
		if q.client == client {
			most = max(most, q.number)
		}
	}
	return most
}

// calmRound has all nodes run and be heard; a request is called anew on each of them.
func (k *kit) calmRound(q request, op api.Op) bool {
	k.t.Helper()
	over := false
	look := func(l []api.Reply) {
		for _, r := range l {
			over = over || request{r.Client, r.Req} == q && (!isRefusal(r.Result) || r.Result.E == api.ErrFull)
		}
	}
	for i, x := range k.nodes {
		look(k.call(i, q.client, q.number, op))
		look(k.did(i, x.Tick()))
		for range 40 {
			look(k.did(i, x.Work()))
		}
		look(k.did(i, x.Flush()))
	}
	for n := k.bag.Len(); n > 0; n-- {
		look(k.deliver(0))
	}
	return over
}

// calmDown holds that it goes on: the request is replied, and all is applied everywhere.
func (k *kit) calmDown(q request, op api.Op) {
	k.t.Helper()
	for i := range k.nodes {
		k.start(i)
	}
	rounds := 0
	for ; !k.calmRound(q, op); rounds++ {
		if rounds == 200 {
			k.t.Fatalf("%v is not replied", q)
		}
	}
	k.seen["rounds"] = max(k.seen["rounds"], rounds)
	applied := func() bool {
		return !slices.ContainsFunc(k.nodes, func(x *Node) bool { return x.Stand().Applied != len(k.history) })
	}
	for rounds = 0; !applied(); rounds++ {
		if rounds == 200 {
			k.t.Fatal("not all is applied")
		}
		k.calmRound(q, op)
	}
	k.seen["more rounds"] = max(k.seen["more rounds"], rounds)
}

// someRun is a run of many steps, and how it ends.
func someRun(t *testing.T, run int) *kit {
	t.Helper()
	n := []int{1, 3, 3, 5, 7}[run%5]
	r := &source{uint32(run)}
	k := newKit(t, n, api.Shape{Blocks: 44, Journal: 20, Inodes: 8})
	for step := range 600 {
		k.someStep(r, 1+run%3)
		if step%40 == 0 {
			k.trees()
		}
	}
	k.calmDown(request{9, 1}, api.Op{Kind: api.OpList, Path: "/"})
	k.trees()
	return k
}

// 24.3 to 24.6, P2, P4, P6, P7: nodes that lose, double and reorder what they say, and crash, are one file system.
func TestRuns(t *testing.T) {
	total := map[string]int{}
	for run := range 60 {
		k := someRun(t, run)
		for what, n := range k.seen {
			total[what] += n
		}
		for _, x := range k.nodes {
			total["view"] = max(total["view"], x.Stand().View)
		}
		total["entries"] += len(k.history)
	}
	for what, least := range map[string]int{"replied": 500, "refused": 1000, "crash": 200, "entries": 300, "view": 4} {
		if total[what] < least {
			t.Errorf("%s: %d; at least %d", what, total[what], least)
		}
	}
}

// R6: the same steps tell the same.
func TestSame(t *testing.T) {
	for run := range 10 {
		a, b := someRun(t, run), someRun(t, run)
		if a.told != b.told || a.told == 0 {
			t.Errorf("run %d: %d and %d", run, a.told, b.told)
		}
	}
}
