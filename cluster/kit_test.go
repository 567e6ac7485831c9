package cluster

import (
	"slices"
	"testing"

	"cartulary/api"
	"cartulary/bag"
	"cartulary/dev"
	"cartulary/fsck"
	"cartulary/mend"
	"cartulary/model"
	"cartulary/msg"
	"cartulary/trace"
	"cartulary/vsr"
)

// source is a source of numbers, always the same ones.
type source struct{ x uint32 }

func (s *source) next(n int) int {
	s.x = s.x*1664525 + 1013904223
	return int(s.x>>8) % n
}

var small = api.Shape{Blocks: 44, Journal: 20, Inodes: 8}

// kit is a cluster, and what is known of its steps.
type kit struct {
	t     *testing.T
	s     api.Shape
	n     int
	c     *Cluster
	steps []trace.Seen
	// replied are the requests that were replied without refusal, with the least view of a node that did.
	replied map[request]int
	// fresh are the nodes that were looked at since they last did something to their devices.
	fresh map[int]bool
	// seen counts what happened.
	seen map[string]int
}

func newKit(t *testing.T, n int, s api.Shape) *kit {
	t.Helper()
	c, e := New(n, s)
	if e != api.OK || c == nil {
		t.Fatalf("New(%d, %v): %v", n, s, e)
	}
	return &kit{t: t, s: s, n: n, c: c, replied: map[request]int{}, fresh: map[int]bool{}, seen: map[string]int{}}
}

// do does a choice that is right, and holds promises 27.3, 27.4 and 27.6 behind it.
func (k *kit) do(x api.Choice) []api.Reply {
	k.t.Helper()
	l, e := k.c.Step(x)
	if e != api.OK {
		k.t.Fatalf("step %d, %+v: %v", len(k.steps), x, e)
	}
	h := k.c.H()
	k.steps = append(k.steps, trace.Seen{Choice: x, Replies: l, H: h})
	for _, r := range l {
		k.hear(r)
	}
	delete(k.fresh, x.Node)
	k.oneLog(h)
	k.kept(h)
	k.onePrimary()
	return l
}

func isRefusal(r api.Result) bool {
	return r.E == api.ErrArg || r.E == api.ErrFull || r.E == api.ErrState
}

func (k *kit) hear(r api.Reply) {
	if isRefusal(r.Result) {
		k.seen["refused"]++
		return
	}
	k.seen["replied"]++
	q := request{r.Client, r.Req}
	v := k.c.Stand(r.Node).View
	if was, ok := k.replied[q]; !ok || v < was {
		k.replied[q] = v
	}
}

// begins tells whether one of two lists is a beginning of the other one.
func begins(a, b []api.Entry) bool {
	n := min(len(a), len(b))
	return slices.Equal(a[:n], b[:n])
}

// oneLog is 27.3: what each node knows to be committed is of one list; that it is a beginning of H has it so of any two.
func (k *kit) oneLog(h []api.Entry) {
	k.t.Helper()
	for i := range k.n {
		s := k.c.Stand(i)
		l := k.c.Log(i)
		if s.Commit > len(l) || s.Commit > len(h) || s.Applied > s.Commit || s.Flushed > s.Len || s.Len != len(l) {
			k.t.Fatalf("step %d: node %d: %+v, %d entries", len(k.steps), i, s, len(l))
		}
		if !slices.Equal(l[:s.Commit], h[:s.Commit]) {
			k.t.Fatalf("step %d: node %d has %v; H is %v", len(k.steps), i, l[:s.Commit], h)
		}
	}
}

// kept is 27.4.
func (k *kit) kept(h []api.Entry) {
	k.t.Helper()
	for i := range k.n {
		s := k.c.Stand(i)
		if !s.Up || !s.Normal || s.View%k.n != i {
			continue
		}
		l := k.c.Log(i)
		for at, e := range h {
			if v, ok := k.replied[request{e.Client, e.Req}]; ok && v <= s.View && (at >= len(l) || l[at] != e) {
				k.t.Fatalf("step %d: view %d's primary has not %v at %d", len(k.steps), s.View, e, at)
			}
		}
	}
}

// onePrimary is 27.6.
func (k *kit) onePrimary() {
	k.t.Helper()
	for i := range k.n {
		for j := range i {
			a, b := k.c.Stand(i), k.c.Stand(j)
			if a.Normal && b.Normal && a.View == b.View && !begins(k.c.Log(i), k.c.Log(j)) {
				k.t.Fatalf("step %d: nodes %d and %d of view %d have %v and %v", len(k.steps), i, j, a.View, k.c.Log(i), k.c.Log(j))
			}
		}
	}
}

// mended are the blocks of a device behind its mending, and how many transactions it has.
func mended(t *testing.T, disk []string) ([]string, int) {
	t.Helper()
	d, e := dev.New(len(disk))
	if e != api.OK {
		t.Fatalf("a device of %d blocks: %v", len(disk), e)
	}
	for i, b := range disk {
		d.Write(i, b)
	}
	st, e := mend.Open(d)
	if e != api.OK {
		t.Fatalf("the device can't be opened: %v", e)
	}
	for st.Busy() {
		st.Step()
	}
	out := make([]string, len(disk))
	for i := range out {
		out[i], _ = st.Read(i)
	}
	return out, st.Count()
}

func sameFile(a fsck.File, b model.File) bool {
	return a.Path == b.Path && a.Inode == b.Inode && a.Kind == b.Kind && a.Links == b.Links && a.Size == b.Size && slices.Equal(a.Blocks, b.Blocks) && a.Data == b.Data
}

// trees is 27.5.
func (k *kit) trees() {
	k.t.Helper()
	h := k.c.H()
	for i := range k.n {
		if k.fresh[i] {
			continue
		}
		k.fresh[i] = true
		blocks, many := mended(k.t, k.c.Disk(i))
		if least := k.c.Stand(i).Applied; many < least || many > len(h) {
			k.t.Fatalf("step %d: node %d has %d transactions, %d are applied, H has %d", len(k.steps), i, many, least, len(h))
		}
		m, _ := model.New(k.s)
		for _, e := range h[:many] {
			m.Do(e.Op)
		}
		if rule, e := fsck.Check(k.s, blocks); rule != 0 || e != api.OK {
			k.t.Fatalf("step %d: node %d breaks rule %d: %v", len(k.steps), i, rule, e)
		}
		tree, e := fsck.Tree(k.s, blocks)
		if want := m.Tree(); e != api.OK || !slices.EqualFunc(tree, want, sameFile) {
			k.t.Fatalf("step %d: node %d: the tree behind %d entries: %v, %v; want %v", len(k.steps), i, many, tree, e, want)
		}
	}
}

// rules is 27.2. Steps at which nothing is called, replied or committed are left out: they break no rule, and a trace has not room for all.
func (k *kit) rules() {
	k.t.Helper()
	var l []trace.Seen
	long := 0
	for _, x := range k.steps {
		if x.Choice.Kind == api.ChCall || len(x.Replies) > 0 || len(x.H) != long {
			l = append(l, x)
			long = len(x.H)
		}
	}
	if rule, at, e := trace.Check(k.s, l); rule != 0 || e != api.OK {
		k.t.Fatalf("rule %d is broken: %v: %+v", rule, e, l[at])
	}
}

func (k *kit) call(node, client, req int, op api.Op) []api.Reply {
	k.t.Helper()
	return k.do(api.Choice{Kind: api.ChCall, Node: node, Client: client, Req: req, Op: op})
}

func (k *kit) deliver(i int) []api.Reply {
	k.t.Helper()
	return k.do(api.Choice{Kind: api.ChDeliver, N: i})
}

// between are the messages in flight of a view and a kind from one node to another.
func (k *kit) between(view, kind, from, to int) []bag.Message {
	var l []bag.Message
	for _, x := range k.c.Flight() {
		if x.From != from || x.To != to {
			continue
		}
		if m, e := msg.Decode(x.Text); e == api.OK && m.Kind == kind && m.View == view {
			l = append(l, x)
		}
	}
	return l
}

// carry delivers each of them, once.
func (k *kit) carry(view, kind, from, to int) {
	k.t.Helper()
	for _, x := range k.between(view, kind, from, to) {
		k.deliver(slices.Index(k.c.Flight(), x))
	}
}

// carryAll does so from each of some nodes to each of some.
func (k *kit) carryAll(view, kind int, from, to []int) {
	k.t.Helper()
	for _, i := range from {
		for _, j := range to {
			k.carry(view, kind, i, j)
		}
	}
}

func (k *kit) flush(nodes ...int) {
	k.t.Helper()
	for _, i := range nodes {
		k.at(api.ChFlush, i)
	}
}

func (k *kit) many(kind, node, times int) []api.Reply {
	k.t.Helper()
	var out []api.Reply
	for range times {
		out = append(out, k.at(kind, node)...)
	}
	return out
}

// lose drops all that is in flight.
func (k *kit) lose() {
	k.t.Helper()
	for len(k.c.Flight()) > 0 {
		k.do(api.Choice{Kind: api.ChDrop})
	}
}

func (k *kit) at(kind, node int) []api.Reply {
	k.t.Helper()
	return k.do(api.Choice{Kind: kind, Node: node})
}

func (k *kit) stands(node int, want vsr.Stand) {
	k.t.Helper()
	if s := k.c.Stand(node); s != want {
		k.t.Fatalf("step %d: node %d stands %+v; want %+v", len(k.steps), node, s, want)
	}
}
