package cluster

import (
	"slices"
	"strconv"
	"testing"

	"cartulary/api"
	"cartulary/msg"
)

// turns are runs in which some nodes hear one another for a turn: so views begin that others do not hear of, and what was sent in them comes late.
type turns struct {
	*kit
	r *source
	// made is how many requests each client made.
	made [2]int
}

func (k *turns) some(of, in int) []int {
	var l []int
	for i := range k.n {
		if k.r.next(in) < of {
			l = append(l, i)
		}
	}
	return l
}

func (k *turns) mayFlush(nodes ...int) {
	for _, i := range nodes {
		if k.r.next(5) > 0 {
			k.flush(i)
		}
	}
}

// hear is carry; some of what it delivers comes once more later.
func (k *turns) hear(view, kind, from, to int) {
	k.t.Helper()
	for _, x := range k.between(view, kind, from, to) {
		if k.r.next(2) == 0 {
			k.do(api.Choice{Kind: api.ChTwice, N: slices.Index(k.c.Flight(), x)})
		}
	}
	k.carry(view, kind, from, to)
}

// newView has some nodes change to a view, and perhaps begin it.
func (k *turns) newView() {
	k.t.Helper()
	node := k.r.next(k.n)
	for range 1 + k.r.next(k.n) {
		k.many(api.ChTick, node, 8+2*node)
	}
	v := k.c.Stand(node).View
	primary := v % k.n
	with := append(k.some(2, 3), node)
	k.mayFlush(node)
	for _, i := range with {
		k.hear(v, msg.Change, node, i)
		k.mayFlush(i)
	}
	for _, i := range with {
		for _, j := range with {
			k.hear(v, msg.Change, i, j)
		}
	}
	k.mayFlush(with...)
	stage := k.r.next(4)
	for _, i := range with {
		if stage > 0 {
			k.hear(v, msg.Offer, i, primary)
		}
	}
	if stage < 2 {
		return
	}
	k.mayFlush(primary)
	for _, i := range k.some(2, 3) {
		k.hear(v, msg.Start, primary, i)
		k.mayFlush(i)
		k.hear(v, msg.Acked, i, primary)
	}
}

// leader is a node that is normal and its view's primary, if there is one.
func (k *turns) leader() (int, bool) {
	for _, i := range append(k.some(1, 2), k.some(1, 1)...) {
		if s := k.c.Stand(i); s.Normal && s.View%k.n == i {
			return i, true
		}
	}
	return 0, false
}

func (k *turns) op(req int) api.Op {
	return api.Op{Kind: api.OpMkdir, Path: "/" + strconv.Itoa(req)}
}

// newEntry has a primary be called, and heard by some.
func (k *turns) newEntry() {
	k.t.Helper()
	node, ok := k.leader()
	if !ok {
		return
	}
	v := k.c.Stand(node).View
	client := k.r.next(2)
	k.made[client]++
	k.call(node, client, k.made[client], k.op(k.made[client]))
	k.mayFlush(node)
	for range k.r.next(2) {
		k.at(api.ChTick, node)
	}
	for _, i := range k.some(1, 2) {
		k.hear(v, msg.Prepare, node, i)
		k.mayFlush(i)
		k.hear(v, msg.Acked, i, node)
		k.hear(v, msg.Ask, i, node)
		k.hear(v, msg.Tell, node, i)
		k.mayFlush(i)
	}
}

// told has a node be told by a primary what is committed, work, and perhaps crash ahead of a flush.
func (k *turns) told() {
	k.t.Helper()
	node, ok := k.leader()
	if !ok {
		return
	}
	v := k.c.Stand(node).View
	i := k.r.next(k.n)
	k.at(api.ChTick, node)
	k.hear(v, msg.Start, node, i)
	k.hear(v, msg.Prepare, node, i)
	k.many(api.ChWork, i, 10)
	if k.r.next(2) == 0 {
		k.crash(i)
	}
}

func (k *turns) crash(nodes ...int) {
	k.t.Helper()
	for _, i := range nodes {
		k.do(api.Choice{Kind: api.ChCrash, Node: i, N: k.r.next(8), Torn: k.r.next(2)})
		k.at(api.ChStart, i)
	}
}

// again has all nodes be called with requests that were made.
func (k *turns) again() {
	k.t.Helper()
	for client, many := range k.made {
		if many > 0 {
			req := 1 + k.r.next(many)
			for i := range k.n {
				k.call(i, client, req, k.op(req))
			}
		}
	}
}

func (k *turns) turn() {
	k.t.Helper()
	switch k.r.next(7) {
	case 0, 1:
		k.newView()
	case 2, 3:
		k.newEntry()
	case 4:
		for _, i := range k.some(1, 2) {
			k.many(api.ChWork, i, 12)
		}
		k.crash(k.some(1, 3)...)
	case 5:
		for range k.r.next(6) {
			k.deliver(k.r.next(1 + len(k.c.Flight())))
		}
	default:
		k.told()
	}
	k.again()
}

func someTurns(t *testing.T, run int) *kit {
	t.Helper()
	r := &source{uint32(run) * 2654435761}
	k := &turns{kit: newKit(t, []int{3, 5, 7}[run%3], small), r: r}
	for range 8 + r.next(12) {
		k.turn()
	}
	k.rules()
	k.trees()
	if run%30 == 0 {
		k.calmDown(request{9, 1}, api.Op{Kind: api.OpList, Path: "/"})
		k.rules()
		k.trees()
	}
	k.seen["entries"] = len(k.c.H())
	return k.kit
}

// 27.2 to 27.7, P2, P6, P7
func TestTurns(t *testing.T) {
	total := map[string]int{}
	for run := range 300 {
		for what, n := range someTurns(t, run).seen {
			total[what] += n
		}
	}
	for what, least := range map[string]int{"replied": 300, "entries": 200} {
		if total[what] < least {
			t.Errorf("%s: %d; at least %d", what, total[what], least)
		}
	}
}
