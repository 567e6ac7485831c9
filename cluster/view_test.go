package cluster

import (
	"testing"

	"cartulary/api"
	"cartulary/msg"
	"cartulary/vsr"
)

// older is a cluster in whose view 0 nodes 0 and 3 alone have an entry; both have flushed it.
func older(t *testing.T, n int) *kit {
	t.Helper()
	k := newKit(t, n, small)
	k.call(0, 1, 1, create("/a"))
	k.flush(0)
	k.carry(0, msg.Prepare, 0, 3)
	k.flush(3)
	k.lose()
	k.stands(3, vsr.Stand{Up: true, Normal: true, Len: 1, Flushed: 1})
	return k
}

// change has a node's timer tick until it is in a view, to which some others change with it; all of them have flushed it, and what they offer is in flight.
func (k *kit) change(v, node int, others ...int) {
	k.t.Helper()
	for k.c.Stand(node).View < v {
		k.at(api.ChTick, node)
	}
	k.flush(node)
	for _, i := range others {
		k.carry(v, msg.Change, node, i)
	}
	k.flush(others...)
	k.carryAll(v, msg.Change, others, others)
}

// begin has a view's primary take what others offer; they are told its log.
func (k *kit) begin(v int, others ...int) {
	k.t.Helper()
	node := v % k.n
	k.carryAll(v, msg.Offer, others, []int{node})
	k.flush(node)
	if s := k.c.Stand(node); s.View != v || !s.Normal {
		k.t.Fatalf("%+v", s)
	}
}

// started is a cluster in which view 1 began without the entry, which nobody heard, and then view 3 with it, which committed it; also others than those of view 3 are in view 2, and what they offer is in flight.
func started(t *testing.T, n int, one, two, three []int) *kit {
	t.Helper()
	k := older(t, n)
	k.change(1, 1, one...)
	k.begin(1, one...)
	k.lose()
	k.stands(1, vsr.Stand{Up: true, Normal: true, View: 1})
	if len(two) > 0 {
		k.change(2, 2, two...)
		k.stands(2, vsr.Stand{Up: true, View: 2})
	}
	k.change(3, 3, three...)
	k.begin(3, three...)
	k.carryAll(3, msg.Start, []int{3}, three)
	k.flush(three...)
	k.carryAll(3, msg.Acked, three, []int{3})
	k.stands(3, vsr.Stand{Up: true, Normal: true, View: 3, Len: 1, Flushed: 1, Commit: 1})
	return k
}

// forgets has node 0, whose entry was flushed in view 0, be told by view 3 that it is committed, work, and crash ahead of a flush: it is in view 0 again.
func (k *kit) forgets() {
	k.t.Helper()
	k.carry(3, msg.Start, 3, 0)
	k.at(api.ChTick, 3)
	k.carry(3, msg.Prepare, 3, 0)
	k.stands(0, vsr.Stand{Up: true, Normal: true, View: 3, Len: 1, Flushed: 1, Commit: 1})
	k.many(api.ChWork, 0, 20)
	k.do(api.Choice{Kind: api.ChCrash, Node: 0, N: 1})
	k.at(api.ChStart, 0)
	if s := k.c.Stand(0); s.View != 0 || !s.Normal {
		k.t.Fatalf("%+v", s)
	}
}

// 27.4: while view 1's primary lives without an entry, a node that is back in view 0 does not reply it, though it was told in view 3 that it is committed.
func TestReplyOfLesserView(t *testing.T) {
	k := started(t, 5, []int{2, 4}, nil, []int{2, 4})
	k.forgets()
	silent(t, k.call(0, 1, 1, create("/a")))
	silent(t, k.many(api.ChWork, 0, 20))
	k.rules()
	k.trees()
	k.calmDown(request{9, 1}, api.Op{Kind: api.OpList, Path: "/"})
	k.rules()
	k.trees()
}

// 27.3: nor does it tell in view 2, which begins without that entry, that there is a committed one.
func TestOfferOfLesserView(t *testing.T) {
	k := started(t, 7, []int{2, 4, 5}, []int{1, 5, 6}, []int{4, 5, 6})
	k.forgets()
	for _, i := range []int{1, 5, 6} {
		k.carry(2, msg.Change, i, 0)
	}
	k.flush(0)
	k.begin(2, 0, 1, 5)
	k.stands(2, vsr.Stand{Up: true, Normal: true, View: 2})
	silent(t, k.call(2, 2, 1, api.Op{Kind: api.OpMkdir, Path: "/b"}))
	k.flush(2)
	silent(t, k.many(api.ChWork, 2, 20))
	k.rules()
	k.trees()
	k.calmDown(request{9, 1}, api.Op{Kind: api.OpList, Path: "/"})
	k.rules()
	k.trees()
}
