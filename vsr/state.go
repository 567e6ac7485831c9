package vsr

import (
	"cartulary/api"
	"cartulary/mend"
	"cartulary/msg"
	"cartulary/replog"
	"cartulary/view"
)

// wake has it be up, with what lasts.
func (x *Node) wake() {
	x.up = true
	x.memory = memory{log: replog.New(), meta: x.lasts.meta, calls: map[request]struct{}{}}
	x.log.Replace(0, x.lasts.entries)
	x.store, _ = mend.Open(x.device)
	x.results = x.replay(x.store.Count())
	x.commit, x.sure = x.store.Count(), x.store.Count()
	x.forget()
}

func (x *Node) isUp() bool {
	return x != nil && x.up
}

func (x *Node) isNormal() bool {
	return x.meta.Normal == x.meta.View
}

// leads tells whether it is its view's primary, and normal.
func (x *Node) leads() bool {
	return x.isNormal() && x.primary(x.meta.View) == x.id
}

func (x *Node) isOther(node int) bool {
	return node >= 0 && node < x.nodes && node != x.id
}

// others are all nodes but itself, rising.
func (x *Node) others() []int {
	l := []int{}
	for node := range x.nodes {
		if node != x.id {
			l = append(l, node)
		}
	}
	return l
}

func (x *Node) primary(v int) int {
	node, _ := view.Primary(x.nodes, v)
	return node
}

// areEnough tells whether so many other nodes are enough with itself.
func (x *Node) areEnough(others int) bool {
	enough, _ := view.Enough(x.nodes)
	return others+1 >= enough
}

func (x *Node) entries() []api.Entry {
	return x.log.From(1, x.log.Len())
}

// flushed is how many of the log's entries a crash would leave: the first ones that are what lasts.
func (x *Node) flushed() int {
	for i, lasting := range x.lasts.entries {
		if e, fault := x.log.Get(i + 1); fault != api.OK || e != lasting {
			return i
		}
	}
	return len(x.lasts.entries)
}

// enter has it be in a view, as yet with nobody else.
func (x *Node) enter(v int) {
	x.meta.View = v
	x.unflushed = true
	x.ticks = 0
	x.forget()
}

// forget lets go what nodes told in the view ahead.
func (x *Node) forget() {
	x.acked = [api.MaxNodes]int{}
	x.changed = map[int]struct{}{}
	x.offers = map[int]msg.Message{}
}

// settle has it be normal in its view.
func (x *Node) settle() {
	x.meta.Normal = x.meta.View
	x.unflushed = true
	x.forget()
}

// replace has its log be its first entries and others; it tells whether they can be.
func (x *Node) replace(keep int, with []api.Entry) bool {
	if x.log.Replace(keep, with) != api.OK {
		return false
	}
	x.unflushed = true
	return true
}

// add puts an entry behind the log's others.
func (x *Node) add(e api.Entry) api.Errno {
	_, fault := x.log.Append(e)
	if fault == api.OK {
		x.unflushed = true
	}
	return fault
}

// learn has it know that so many entries are committed.
func (x *Node) learn(commit int) {
	x.commit = max(x.commit, commit)
	if x.lasts.meta.View == x.meta.View {
		x.sure = x.commit
	}
}

// count has the primary commit what enough nodes have.
func (x *Node) count() {
	if !x.leads() {
		return
	}
	acks := x.acked
	acks[x.id] = x.flushed()
	commit, _ := view.Commit(acks[:x.nodes])
	x.learn(commit)
}

// say sends a message, or has it wait with what it stands behind. One that would be too long is none.
func (x *Node) say(to int, m msg.Message) {
	text, e := msg.Encode(m)
	if e != api.OK {
		return
	}
	if x.unflushed {
		x.waiting = append(x.waiting, Out{To: to, Text: text})
		return
	}
	x.done.Outs = append(x.done.Outs, Out{To: to, Text: text})
}

func (x *Node) sayToAll(m msg.Message) {
	for _, to := range x.others() {
		x.say(to, m)
	}
}

// told is what the call that ends here did.
func (x *Node) told() Done {
	d := x.done
	x.done = Done{}
	return d
}
