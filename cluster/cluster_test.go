package cluster

import (
	"math"
	"slices"
	"strconv"
	"strings"
	"testing"

	"cartulary/api"
	"cartulary/bag"
	"cartulary/msg"
	"cartulary/vsr"
)

func create(path string) api.Op { return api.Op{Kind: api.OpCreate, Path: path} }

func calling(node, client, req int, op api.Op) api.Choice {
	return api.Choice{Kind: api.ChCall, Node: node, Client: client, Req: req, Op: op}
}

// snapshot is all that a cluster tells of itself.
func snapshot(c *Cluster) string {
	b := strings.Builder{}
	entries := func(l []api.Entry) {
		for _, e := range l {
			b.WriteString(strconv.Itoa(e.View) + "," + strconv.Itoa(e.Client) + "," + strconv.Itoa(e.Req) + "," + strconv.Itoa(e.Op.Kind) + e.Op.Path + ";")
		}
		b.WriteString("|")
	}
	entries(c.H())
	for i := range c.nodes {
		s := c.Stand(i)
		for _, n := range []int{s.View, s.Len, s.Flushed, s.Commit, s.Applied} {
			b.WriteString(strconv.Itoa(n) + " ")
		}
		b.WriteString(strconv.FormatBool(s.Up) + strconv.FormatBool(s.Normal))
		entries(c.Log(i))
		b.WriteString(strings.Join(c.Disk(i), "") + strconv.Itoa(c.nodes[i].Waits()))
	}
	for _, m := range c.Flight() {
		b.WriteString(strconv.Itoa(m.From) + strconv.Itoa(m.To) + m.Text + strconv.Itoa(c.bag.Count(m)))
	}
	return b.String()
}

func sameReply(a, b api.Reply) bool {
	return a.Node == b.Node && a.Client == b.Client && a.Req == b.Req && sameResult(a.Result, b.Result)
}

func sameResult(a, b api.Result) bool {
	return a.E == b.E && a.Data == b.Data && a.Kind == b.Kind && a.Links == b.Links && a.Size == b.Size && slices.Equal(a.Names, b.Names)
}

// replies holds that there is one reply, and which.
func replies(t *testing.T, l []api.Reply, want api.Reply) {
	t.Helper()
	if len(l) != 1 || !sameReply(l[0], want) {
		t.Fatalf("%v; want %v", l, want)
	}
}

// silent holds that there is no reply.
func silent(t *testing.T, l []api.Reply) {
	t.Helper()
	if len(l) != 0 {
		t.Fatalf("%v", l)
	}
}

// 27.1

func TestNew(t *testing.T) {
	none := api.Shape{Blocks: 40, Journal: 19, Inodes: 8}
	for _, n := range []int{math.MinInt, -1, 0, 2, 4, 6, 8, 9, math.MaxInt} {
		for _, s := range []api.Shape{small, none, {}} {
			if c, e := New(n, s); c != nil || e != api.ErrArg {
				t.Errorf("New(%d, %v): %v", n, s, e)
			}
		}
	}
	for _, n := range []int{1, 3, 5, 7} {
		for _, s := range []api.Shape{none, {}, {Blocks: 27, Journal: 20, Inodes: 8}, {Blocks: 1025, Journal: 20, Inodes: 8}, {Blocks: 40, Journal: 20, Inodes: 65}, {Blocks: 40, Journal: 20}, {Blocks: 400, Journal: 257, Inodes: 8}} {
			if c, e := New(n, s); c != nil || e != api.ErrShape {
				t.Errorf("New(%d, %v): %v", n, s, e)
			}
		}
		for _, s := range []api.Shape{small, {Blocks: 27, Journal: 20, Inodes: 1}, {Blocks: 1024, Journal: 256, Inodes: 64}} {
			isNew(t, n, s)
		}
	}
}

// isNew holds that a new cluster's nodes are up, and that there is nothing else.
func isNew(t *testing.T, n int, s api.Shape) {
	t.Helper()
	c, e := New(n, s)
	if e != api.OK {
		t.Fatalf("New(%d, %v): %v", n, s, e)
	}
	if len(c.H()) != 0 || len(c.Flight()) != 0 {
		t.Errorf("%v, %v", c.H(), c.Flight())
	}
	for i := range n {
		x, _ := vsr.New(i, n, s)
		if c.Stand(i) != (vsr.Stand{Up: true, Normal: true}) || len(c.Log(i)) != 0 || !slices.Equal(c.Disk(i), x.Disk()) {
			t.Errorf("node %d of %d: %+v", i, n, c.Stand(i))
		}
	}
	for _, i := range []int{math.MinInt, -1, n, n + 1, math.MaxInt} {
		if c.Stand(i) != (vsr.Stand{}) || len(c.Log(i)) != 0 || len(c.Disk(i)) != 0 {
			t.Errorf("node %d of %d is there", i, n)
		}
	}
}

func TestNil(t *testing.T) {
	// One that New did not make has no nodes either.
	for _, c := range []*Cluster{nil, {}} {
		for kind := -1; kind < 12; kind++ {
			for _, x := range []api.Choice{{Kind: kind}, {Kind: kind, Node: -1, N: -1, Torn: -1}} {
				if l, e := c.Step(x); len(l) != 0 || e != api.ErrState {
					t.Errorf("%v: %v, %v", x, l, e)
				}
			}
		}
		if len(c.H()) != 0 || len(c.Flight()) != 0 {
			t.Errorf("%v, %v", c.H(), c.Flight())
		}
		for i := -1; i < 2; i++ {
			if c.Stand(i) != (vsr.Stand{}) || len(c.Log(i)) != 0 || len(c.Disk(i)) != 0 {
				t.Errorf("node %d is there", i)
			}
		}
	}
}

// busy is a cluster of three nodes with an entry, messages and writes that wait.
func busy(t *testing.T) *kit {
	t.Helper()
	k := newKit(t, 3, small)
	k.call(0, 1, 1, create("/a"))
	k.flush(0)
	k.carry(0, msg.Prepare, 0, 1)
	k.flush(1)
	k.carry(0, msg.Acked, 1, 0)
	k.at(api.ChWork, 0)
	k.at(api.ChWork, 0)
	k.at(api.ChWork, 0)
	k.at(api.ChTick, 0)
	if len(k.c.H()) != 1 || len(k.c.Flight()) < 3 || k.c.nodes[0].Waits() == 0 {
		t.Fatalf("%v, %v", k.c.H(), k.c.Flight())
	}
	return k
}

func TestStepErrors(t *testing.T) {
	ofNode := []int{api.ChCall, api.ChTick, api.ChFlush, api.ChCrash, api.ChStart, api.ChWork}
	ofBag := []int{api.ChDeliver, api.ChDrop, api.ChTwice}
	wrong := []api.Choice{}
	for _, kind := range []int{math.MinInt, -1, 0, 10, 11, math.MaxInt} {
		wrong = append(wrong, api.Choice{Kind: kind}, api.Choice{Kind: kind, Node: -1, N: -1, Torn: -1})
	}
	for _, kind := range ofNode {
		for _, node := range []int{math.MinInt, -1, 3, 4, math.MaxInt} {
			wrong = append(wrong, api.Choice{Kind: kind, Node: node, Client: 1, Req: 1, Op: create("/a")}, api.Choice{Kind: kind, Node: node, Client: 1, Req: 1})
		}
	}
	for _, kind := range append(ofBag, api.ChCrash) {
		for _, n := range []int{math.MinInt, -1} {
			wrong = append(wrong, api.Choice{Kind: kind, N: n})
		}
	}
	for _, torn := range []int{math.MinInt, -1, api.MaxBlocks + 1, math.MaxInt} {
		for node := range 3 {
			wrong = append(wrong, api.Choice{Kind: api.ChCrash, Node: node, Torn: torn})
		}
	}
	k := busy(t)
	was := snapshot(k.c)
	for _, x := range wrong {
		if l, e := k.c.Step(x); len(l) != 0 || e != api.ErrArg || snapshot(k.c) != was {
			t.Errorf("%+v: %v, %v", x, l, e)
		}
	}
	// Also of a node that is not up.
	k.do(api.Choice{Kind: api.ChCrash, Node: 2, Torn: api.MaxBlocks, N: math.MaxInt})
	for _, x := range []api.Choice{{Kind: api.ChCrash, Node: 2, N: -1}, {Kind: api.ChCrash, Node: 2, Torn: -1}, {Kind: api.ChCrash, Node: 2, Torn: api.MaxBlocks + 1}} {
		if l, e := k.c.Step(x); len(l) != 0 || e != api.ErrArg {
			t.Errorf("%+v: %v, %v", x, l, e)
		}
	}
}

func TestCalledWithAnother(t *testing.T) {
	k := newKit(t, 3, small)
	op := api.Op{Kind: api.OpWrite, At: 1, N: 2, Path: "/a", To: "/b", Data: "c"}
	others := []api.Op{
		{}, {Kind: api.OpRead, At: 1, N: 2, Path: "/a", To: "/b", Data: "c"}, {Kind: api.OpWrite, N: 2, Path: "/a", To: "/b", Data: "c"},
		{Kind: api.OpWrite, At: 1, Path: "/a", To: "/b", Data: "c"}, {Kind: api.OpWrite, At: 1, N: 2, Path: "/", To: "/b", Data: "c"},
		{Kind: api.OpWrite, At: 1, N: 2, Path: "/a", Data: "c"}, {Kind: api.OpWrite, At: 1, N: 2, Path: "/a", To: "/b"},
	}
	refused := func(node, client, req int, op api.Op, want api.Errno) {
		t.Helper()
		was := snapshot(k.c)
		if l, e := k.c.Step(calling(node, client, req, op)); len(l) != 0 || e != want || snapshot(k.c) != was {
			t.Fatalf("node %d, request %d of %d, %+v: %v, %v", node, req, client, op, l, e)
		}
	}
	k.do(api.Choice{Kind: api.ChCrash, Node: 2})
	// However it was called: taken, by a node that does not lead, by one that is not up, or of numbers that no entry has.
	for i, q := range []struct{ node, client, req int }{{0, 1, 1}, {1, 1, 2}, {2, 1, 3}, {0, 1, 0}, {0, 1, -1}, {0, -1, 1}, {0, math.MaxInt, math.MinInt}} {
		l := k.call(q.node, q.client, q.req, op)
		if (len(l) == 0) != (i == 0 || i == 2) {
			t.Errorf("%v", l)
		}
		for _, x := range others {
			for node := range 3 {
				refused(node, q.client, q.req, x, api.ErrState)
			}
			refused(3, q.client, q.req, x, api.ErrArg)
		}
		// The same one may come again.
		k.call(q.node, q.client, q.req, op)
	}
	// What was refused by an error was not called.
	refused(3, 2, 9, op, api.ErrArg)
	for _, x := range others {
		refused(0, 1, 1, x, api.ErrState)
	}
	k.call(0, 2, 9, others[0])
	refused(0, 2, 9, op, api.ErrState)
	// Nor is another client's request, or another one of the client, the same.
	silent(t, k.call(0, 3, 1, others[0]))
	silent(t, k.call(0, 3, 2, op))
	k.rules()
}

// Fields that a kind does not name are not looked at.
func TestOtherFields(t *testing.T) {
	odd := api.Choice{Node: -9, N: -8, Torn: -7, Client: -6, Req: -5, Op: api.Op{Kind: -4, At: -3, Path: "x"}}
	with := func(kind, node, n int) (api.Choice, api.Choice) {
		x := odd
		x.Kind = kind
		switch kind {
		case api.ChDeliver, api.ChDrop, api.ChTwice:
			x.N = n
			return api.Choice{Kind: kind, N: n}, x
		case api.ChCrash:
			x.Node, x.N, x.Torn = node, n, 1
			return api.Choice{Kind: kind, Node: node, N: n, Torn: 1}, x
		case api.ChCall:
			x.Node, x.Client, x.Req, x.Op = node, 5, 6, create("/b")
			return calling(node, 5, 6, create("/b")), x
		}
		x.Node = node
		return api.Choice{Kind: kind, Node: node}, x
	}
	for kind := api.ChCall; kind <= api.ChWork; kind++ {
		for node := range 3 {
			a, b := busy(t), busy(t)
			x, y := with(kind, node, 1)
			la, lb := a.do(x), b.do(y)
			if snapshot(a.c) != snapshot(b.c) || !slices.EqualFunc(la, lb, sameReply) {
				t.Errorf("%+v: %v; %+v: %v", x, la, y, lb)
			}
		}
	}
}

// What choices do

func TestMessages(t *testing.T) {
	k := busy(t)
	l := k.c.Flight()
	was := snapshot(k.c)
	for _, kind := range []int{api.ChDeliver, api.ChDrop, api.ChTwice} {
		for _, n := range []int{len(l), len(l) + 1, math.MaxInt} {
			if silent(t, k.do(api.Choice{Kind: kind, N: n})); snapshot(k.c) != was {
				t.Errorf("%d of message %d has done something", kind, n)
			}
		}
	}
	for i, m := range l {
		k := busy(t)
		had := k.c.bag.Count(m)
		k.do(api.Choice{Kind: api.ChTwice, N: i})
		if k.c.bag.Count(m) != had+1 || !slices.Equal(k.c.Flight(), l) {
			t.Errorf("message %d is there %d times", i, k.c.bag.Count(m))
		}
		for range had + 1 {
			k.do(api.Choice{Kind: api.ChDrop, N: i})
		}
		if !slices.Equal(k.c.Flight(), slices.Delete(slices.Clone(l), i, i+1)) {
			t.Errorf("message %d: %v", i, k.c.Flight())
		}
	}
}

func TestDeliver(t *testing.T) {
	k := busy(t)
	for i, m := range k.c.Flight() {
		a, b := busy(t), busy(t)
		// A node of its own hears the same.
		a.deliver(i)
		b.c.bag.Drop(i)
		for _, o := range b.c.nodes[m.To].Message(m.From, m.Text).Outs {
			b.c.bag.Put(bag.Message{From: m.To, To: o.To, Text: o.Text})
		}
		if snapshot(a.c) != snapshot(b.c) {
			t.Errorf("message %d", i)
		}
		// To a node that is not up it is lost, also when that starts again.
		k := busy(t)
		k.do(api.Choice{Kind: api.ChCrash, Node: m.To})
		k.do(api.Choice{Kind: api.ChDrop, N: i})
		l := busy(t)
		l.do(api.Choice{Kind: api.ChCrash, Node: m.To})
		silent(t, l.deliver(i))
		k.at(api.ChStart, m.To)
		l.at(api.ChStart, m.To)
		if snapshot(k.c) != snapshot(l.c) {
			t.Errorf("message %d to a node that is not up", i)
		}
	}
}

func TestFull(t *testing.T) {
	k := newKit(t, 3, small)
	k.at(api.ChTick, 0)
	l := k.c.Flight()
	if len(l) != 2 {
		t.Fatalf("%v", l)
	}
	for k.c.bag.Len() < bag.MaxBag {
		k.do(api.Choice{Kind: api.ChTwice})
	}
	times := k.c.bag.Count(l[0])
	k.do(api.Choice{Kind: api.ChTwice})
	k.do(api.Choice{Kind: api.ChTwice, N: 1})
	k.call(0, 1, 1, create("/a"))
	k.flush(0)
	k.at(api.ChTick, 0)
	if k.c.bag.Len() != bag.MaxBag || k.c.bag.Count(l[0]) != times || k.c.bag.Count(l[1]) != 1 || !slices.Equal(k.c.Flight(), l) {
		t.Errorf("%d messages, %d and %d", k.c.bag.Len(), k.c.bag.Count(l[0]), k.c.bag.Count(l[1]))
	}
	// With room for one alone, the first that is sent is there.
	k.do(api.Choice{Kind: api.ChDrop, N: 1})
	k.at(api.ChTick, 0)
	if f := k.c.Flight(); k.c.bag.Len() != bag.MaxBag || len(f) != 2 || f[0].To != 1 || f[1].To != 1 {
		t.Errorf("%v", f)
	}
	// A message that is delivered makes room for its answer.
	k.deliver(0)
	f := k.c.Flight()
	if k.c.bag.Len() != bag.MaxBag || f[0].From != 1 || f[0].To != 0 {
		t.Errorf("%v", f)
	}
}

// A crash's picks are its number's bits.
func TestCrash(t *testing.T) {
	for acts := range 6 {
		for n := range 8 {
			for _, torn := range []int{0, 1, api.MaxBlocks} {
				checkCrash(t, acts, n, torn)
				// From bit 62 on, none is a pick.
				checkCrash(t, acts, n|1<<62, torn)
			}
		}
		checkCrash(t, acts, math.MaxInt, 0)
	}
}

func checkCrash(t *testing.T, acts, n, torn int) {
	t.Helper()
	k := newKit(t, 1, small)
	x, _ := vsr.New(0, 1, small)
	k.call(0, 1, 1, create("/a"))
	x.Call(1, 1, create("/a"))
	k.flush(0)
	x.Flush()
	for range acts {
		k.at(api.ChWork, 0)
		x.Work()
	}
	if k.c.nodes[0].Waits() != x.Waits() {
		t.Fatalf("%d writes wait", x.Waits())
	}
	picks := []bool{n&1 != 0, n&2 != 0, n&4 != 0}
	for n == math.MaxInt && len(picks) < x.Waits() {
		picks = append(picks, true)
	}
	silent(t, k.do(api.Choice{Kind: api.ChCrash, N: n, Torn: torn}))
	x.Crash(picks, torn)
	if !slices.Equal(k.c.Disk(0), x.Disk()) || k.c.Stand(0) != (vsr.Stand{}) || len(k.c.Log(0)) != 0 {
		t.Errorf("%d acts, picks %d, torn %d", acts, n, torn)
	}
	// Another crash of it is nothing.
	silent(t, k.do(api.Choice{Kind: api.ChCrash, N: n ^ 1, Torn: torn}))
	if !slices.Equal(k.c.Disk(0), x.Disk()) {
		t.Error("a node that is not up has crashed")
	}
	k.trees()
	k.at(api.ChStart, 0)
	x.Start()
	k.stands(0, x.Stand())
	if k.at(api.ChStart, 0); !slices.Equal(k.c.Log(0), x.Log()) {
		t.Errorf("%v", k.c.Log(0))
	}
}

// A node that is not up does nothing.
func TestDown(t *testing.T) {
	k := busy(t)
	k.do(api.Choice{Kind: api.ChCrash, Node: 0})
	k.do(api.Choice{Kind: api.ChCrash, Node: 1, N: 5, Torn: 2})
	was := snapshot(k.c)
	for _, node := range []int{0, 1} {
		for _, kind := range []int{api.ChTick, api.ChFlush, api.ChWork, api.ChCrash} {
			silent(t, k.at(kind, node))
		}
		silent(t, k.call(node, 4, 1, create("/c")))
	}
	if snapshot(k.c) != was {
		t.Error("a node that is not up has done something")
	}
	// The history is what it was, though nobody that is up knows of it.
	if len(k.c.H()) != 1 || k.c.Stand(2).Commit != 0 || len(k.c.Disk(0)) != small.Blocks {
		t.Errorf("%v, %+v", k.c.H(), k.c.Stand(2))
	}
}

// The history is as long as any node knows it to be, when it knows.
func TestHistory(t *testing.T) {
	k := newKit(t, 3, small)
	long := func(want int) {
		t.Helper()
		if h := k.c.H(); len(h) != want {
			t.Fatalf("%v; want %d entries", h, want)
		}
	}
	k.call(0, 1, 1, create("/a"))
	k.call(0, 2, 7, create("/b"))
	long(0)
	k.flush(0)
	k.carry(0, msg.Prepare, 0, 2)
	k.flush(2)
	long(0)
	for i := range k.c.Flight() {
		if m, _ := msg.Decode(k.c.Flight()[i].Text); m.Kind == msg.Acked && m.At == 1 {
			k.deliver(i)
			break
		}
	}
	long(1)
	k.carry(0, msg.Acked, 2, 0)
	long(2)
	want := []api.Entry{{Client: 1, Req: 1, Op: create("/a")}, {Client: 2, Req: 7, Op: create("/b")}}
	if !slices.Equal(k.c.H(), want) {
		t.Errorf("%v", k.c.H())
	}
	for i := range 3 {
		k.do(api.Choice{Kind: api.ChCrash, Node: i})
		long(2)
	}
	for i := range 3 {
		k.at(api.ChStart, i)
		long(2)
	}
	for i, n := range []int{2, 0, 2} {
		if s := k.c.Stand(i); s.Len != n || s.Commit != 0 || len(k.c.Log(i)) != n {
			t.Errorf("node %d: %+v", i, s)
		}
	}
}

// R3: what is answered is new memory.
func TestMemory(t *testing.T) {
	k := busy(t)
	was := snapshot(k.c)
	for range 2 {
		clear(k.c.H()[:1:cap(k.c.H())])
		clear(k.c.Log(0))
		clear(k.c.Disk(0))
		clear(k.c.Flight())
		_ = append(k.c.H()[:0], api.Entry{Client: 9})
	}
	if snapshot(k.c) != was {
		t.Error("what was answered is kept")
	}
	k = newKit(t, 1, small)
	k.call(0, 1, 1, create("/a"))
	k.call(0, 1, 2, api.Op{Kind: api.OpList, Path: "/"})
	k.flush(0)
	var l []api.Reply
	for range 30 {
		l = append(l, k.at(api.ChWork, 0)...)
	}
	want := api.Reply{Client: 1, Req: 2, Result: api.Result{Names: []string{"a"}}}
	for range 3 {
		replies(t, l[len(l)-1:], want)
		l[len(l)-1].Result.Names[0] = "b"
		l = k.call(0, 1, 2, api.Op{Kind: api.OpList, Path: "/"})
	}
}
