package cluster

import (
	"testing"

	"cartulary/api"
)

// someOp is an operation on few names, so that many of them have something to do.
func someOp(r *source) api.Op {
	names := []string{"/a", "/b", "/d", "/d/a", "/d/b", "/", "", "/e/f"}
	op := api.Op{Kind: 1 + r.next(12), Path: names[r.next(len(names))], To: names[r.next(len(names))], At: r.next(300), N: r.next(300)}
	if r.next(2) == 0 {
		op.Kind = []int{api.OpCreate, api.OpMkdir, api.OpWrite}[r.next(3)]
	}
	if op.Kind == api.OpWrite {
		op.Data = string(make([]byte, r.next(200))) + "x"
	}
	return op
}

// mood is how often a thing of each kind happens.
type mood struct{ call, deliver, drop, twice, tick, flush, work, crash, start int }

func moods() []mood {
	return []mood{
		{call: 12, deliver: 38, drop: 2, twice: 2, tick: 10, flush: 12, work: 20, crash: 2, start: 2},
		{call: 6, deliver: 50, drop: 1, twice: 10, tick: 16, flush: 10, work: 30, crash: 1, start: 3},
		{call: 5, deliver: 60, drop: 0, twice: 8, tick: 12, flush: 5, work: 20, crash: 3, start: 6},
		{call: 10, deliver: 30, drop: 30, twice: 0, tick: 20, flush: 20, work: 40, crash: 1, start: 2},
		{call: 3, deliver: 70, drop: 0, twice: 80, tick: 30, flush: 20, work: 10, crash: 4, start: 8},
	}
}

func (m mood) total() int {
	return m.call + m.deliver + m.drop + m.twice + m.tick + m.flush + m.work + m.crash + m.start
}

func (k *kit) greatest(client int) int {
	most := 0
	for q := range k.c.called {
		if q.client == client {
			most = max(most, q.number)
		}
	}
	return most
}

// someCall is one of a new request, or of one that was called.
func (k *kit) someCall(r *source, node int) {
	k.t.Helper()
	client := r.next(3)
	q := request{client, max(1, r.next(3)+k.greatest(client)-1)}
	op, known := k.c.called[q]
	if !known {
		op = someOp(r)
	}
	k.call(node, q.client, q.number, op)
}

// someStep is one thing that happens, or some of them.
func (k *kit) someStep(r *source, m mood) {
	k.t.Helper()
	node := r.next(k.n)
	left := r.next(m.total())
	is := func(many int) bool {
		left -= many
		return left < 0
	}
	flight := max(1, len(k.c.Flight()))
	switch {
	case is(m.call):
		k.someCall(r, node)
	case is(m.deliver):
		k.deliver(r.next(flight))
	case is(m.drop):
		k.do(api.Choice{Kind: api.ChDrop, N: r.next(flight)})
	case is(m.twice):
		k.do(api.Choice{Kind: api.ChTwice, N: r.next(flight)})
	case is(m.tick):
		k.many(api.ChTick, node, 1+r.next(6)/5*r.next(9))
	case is(m.flush):
		k.flush(node)
	case is(m.work):
		k.many(api.ChWork, node, 1+r.next(12))
	case is(m.crash):
		k.do(api.Choice{Kind: api.ChCrash, Node: node, N: r.next(64), Torn: r.next(3)})
		k.seen["crash"]++
	default:
		k.at(api.ChStart, node)
	}
}

// round has all nodes run and be heard, one behind the other or all at once; a request is called anew on each of them.
func (k *kit) round(q request, op api.Op, once bool) bool {
	k.t.Helper()
	over := false
	look := func(l []api.Reply) {
		for _, r := range l {
			over = over || request{r.Client, r.Req} == q && (!isRefusal(r.Result) || r.Result.E == api.ErrFull)
		}
	}
	each := []func(int){
		func(i int) { look(k.call(i, q.client, q.number, op)) },
		func(i int) { look(k.at(api.ChTick, i)) },
		func(i int) { look(k.many(api.ChWork, i, 40)) },
		func(i int) { look(k.at(api.ChFlush, i)) },
	}
	for at := range k.n * len(each) {
		if once {
			each[at/k.n](at % k.n)
		} else {
			each[at%len(each)](at / len(each))
		}
	}
	// Of what is sent meanwhile, all is delivered too, or nothing ahead of the next round.
	for many := k.c.bag.Len(); many > 0 || once && k.c.bag.Len() > 0; many-- {
		look(k.deliver(0))
	}
	return over
}

// calmDown is 27.7.
func (k *kit) calmDown(q request, op api.Op) {
	k.t.Helper()
	for i := range k.n {
		k.at(api.ChStart, i)
	}
	once := len(k.steps)%2 == 0
	rounds := 0
	for ; !k.round(q, op, once); rounds++ {
		if rounds == 200 {
			k.t.Fatalf("%v is not replied", q)
		}
	}
	k.seen["rounds"] = max(k.seen["rounds"], rounds)
	for more := 0; !k.allApplied(); more++ {
		if more == 200 {
			k.t.Fatal("not all is applied")
		}
		k.round(q, op, once)
	}
}

func (k *kit) allApplied() bool {
	for i := range k.n {
		if k.c.Stand(i).Applied != len(k.c.H()) {
			return false
		}
	}
	return true
}

// someRun is a run of many steps, and how it ends.
func someRun(t *testing.T, run, steps int) *kit {
	t.Helper()
	r := &source{uint32(run)}
	k := newKit(t, []int{3, 1, 5, 3, 7}[run%5], small)
	m := moods()[run/5%len(moods())]
	for step := range steps {
		k.someStep(r, m)
		if step%10 == 0 {
			k.trees()
		}
	}
	k.rules()
	k.trees()
	k.calmDown(request{9, 1}, api.Op{Kind: api.OpList, Path: "/"})
	k.trees()
	k.seen["entries"] = len(k.c.H())
	return k
}

// 27.2 to 27.7, P2, P4, P6, P7
func TestRuns(t *testing.T) {
	total := map[string]int{}
	for run := range 100 {
		for what, n := range someRun(t, run, 500).seen {
			total[what] += n
		}
	}
	for what, least := range map[string]int{"replied": 500, "refused": 2000, "crash": 300, "entries": 300} {
		if total[what] < least {
			t.Errorf("%s: %d; at least %d", what, total[what], least)
		}
	}
}

// 27.8: the same choices do the same, step by step.
func TestSame(t *testing.T) {
	for run := range 5 {
		k := someRun(t, run, 200)
		c, _ := New(k.n, small)
		for i, x := range k.steps {
			l, e := c.Step(x.Choice)
			if e != api.OK || len(l) != len(x.Replies) {
				t.Fatalf("run %d, step %d: %v, %v; %v", run, i, l, e, x.Replies)
			}
			for j, r := range l {
				if !sameReply(r, x.Replies[j]) {
					t.Fatalf("run %d, step %d: %v; %v", run, i, r, x.Replies[j])
				}
			}
		}
		if snapshot(c) != snapshot(k.c) {
			t.Errorf("run %d", run)
		}
	}
}

// 27.7: a node that was not up all the while is told all, and applies it.
func TestBehind(t *testing.T) {
	k := newKit(t, 3, small)
	k.do(api.Choice{Kind: api.ChCrash, Node: 2})
	for req := range 200 {
		k.call(0, 1, req+1, api.Op{Kind: 1 + req%12, Path: "/a", To: "/b"})
	}
	k.flush(0)
	for range 30 {
		k.at(api.ChTick, 0)
		k.deliver(0)
		k.flush(1)
		k.deliver(0)
	}
	k.calmDown(request{2, 1}, create("/c"))
	if len(k.c.H()) != 201 {
		t.Errorf("%d entries", len(k.c.H()))
	}
	k.rules()
	k.trees()
}

// 27.7: a log that is full refuses what is called, and goes on to reply what it has.
func TestFullLog(t *testing.T) {
	k := newKit(t, 1, small)
	op := api.Op{Kind: api.OpWrite, Path: "/a", Data: string(make([]byte, 2000))}
	var full []api.Reply
	for req := 1; len(full) == 0; req++ {
		full = k.call(0, 1, req, op)
		k.flush(0)
	}
	replies(t, full, api.Reply{Client: 1, Req: len(k.c.H()) + 1, Result: api.Result{E: api.ErrFull}})
	replies(t, k.call(0, 2, 1, op), api.Reply{Client: 2, Req: 1, Result: api.Result{E: api.ErrFull}})
	k.calmDown(request{2, 1}, op)
	replies(t, k.call(0, 1, 3, op), api.Reply{Client: 1, Req: 3, Result: api.Result{E: api.Invalid}})
	k.rules()
}
