package vsr

import (
	"cartulary/api"
	"cartulary/msg"
	"cartulary/view"
)

// row is what a message of a kind does.
type row struct {
	do func(from int, m msg.Message)
}

// rows are the kinds of messages.
func (x *Node) rows() map[int]row {
	return map[int]row{
		msg.Prepare: {do: x.hearPrepare},
		msg.Acked:   {do: x.hearAcked},
		msg.Change:  {do: x.hearChange},
		msg.Offer:   {do: x.hearOffer},
		msg.Start:   {do: x.hearStart},
		msg.Ask:     {do: x.hearAsk},
		msg.Tell:    {do: x.hearTell},
	}
}

func (x *Node) hearPrepare(from int, m msg.Message) {
	if from != x.primary(m.View) || m.View < x.meta.View {
		return
	}
	if m.View > x.meta.View {
		x.enter(m.View)
	}
	if !x.isNormal() {
		x.say(from, msg.Message{Kind: msg.Ask, View: x.meta.View, At: x.commit})
		return
	}
	x.follow(m.At, m.Entries)
	x.learn(min(m.Commit, x.log.Len()))
	x.ack(from)
}

func (x *Node) hearAcked(from int, m msg.Message) {
	if m.View != x.meta.View || !x.leads() {
		return
	}
	x.acked[from] = max(x.acked[from], m.At)
	x.count()
}

func (x *Node) hearChange(from int, m msg.Message) {
	if m.View > x.meta.View {
		x.changeTo(m.View)
	}
	if m.View != x.meta.View || x.isNormal() {
		return
	}
	x.changed[from] = struct{}{}
	primary := x.primary(m.View)
	// The primary's own offer is always among those it has.
	if primary != x.id && x.areEnough(len(x.changed)) {
		x.say(primary, x.offer())
	}
}

func (x *Node) hearOffer(from int, m msg.Message) {
	if m.View > x.meta.View {
		x.changeTo(m.View)
	}
	if m.View != x.meta.View || x.isNormal() || x.primary(m.View) != x.id {
		return
	}
	x.offers[from] = m
	if x.areEnough(len(x.offers)) {
		x.lead()
	}
}

func (x *Node) hearStart(from int, m msg.Message) {
	if from != x.primary(m.View) || m.View < x.meta.View || m.View == x.meta.View && x.isNormal() {
		return
	}
	x.enter(m.View)
	x.replace(0, m.Entries)
	x.settle()
	x.learn(m.Commit)
	x.ack(from)
}

func (x *Node) hearAsk(from int, m msg.Message) {
	if m.View != x.meta.View || !x.isNormal() || m.At > x.log.Len() {
		return
	}
	behind := x.log.From(m.At+1, x.log.Len())
	x.say(from, msg.Message{Kind: msg.Tell, View: m.View, At: m.At, Commit: x.commit, Entries: behind})
}

func (x *Node) hearTell(_ int, m msg.Message) {
	if m.View != x.meta.View || x.isNormal() || m.At != x.commit || !x.replace(m.At, m.Entries) {
		return
	}
	x.settle()
	x.learn(m.Commit)
}

// changeTo has it change to a view.
func (x *Node) changeTo(v int) {
	x.enter(v)
	x.sayToAll(msg.Message{Kind: msg.Change, View: v})
}

// prepareFor sends a node the entries behind the first ones, at most so many.
func (x *Node) prepareFor(to, ahead, most int) {
	l := x.log.From(ahead+1, most)
	x.say(to, msg.Message{Kind: msg.Prepare, View: x.meta.View, At: ahead, Commit: x.commit, Entries: l})
}

// follow appends of entries, of which so many are ahead, those that it does not have; where some between are missing, none follows.
func (x *Node) follow(ahead int, l []api.Entry) {
	have := x.log.Len() - ahead
	if have < 0 {
		return
	}
	for _, e := range l[min(have, len(l)):] {
		if x.add(e) != api.OK {
			return
		}
	}
}

func (x *Node) ack(to int) {
	x.say(to, msg.Message{Kind: msg.Acked, View: x.meta.View, At: x.log.Len()})
}

// offer is what it offers in its view.
func (x *Node) offer() msg.Message {
	return msg.Message{Kind: msg.Offer, View: x.meta.View, Normal: x.meta.Normal, At: x.log.Len(), Commit: x.commit, Entries: x.entries()}
}

// lead has the primary begin its view with the best of the logs that are offered.
func (x *Node) lead() {
	x.offers[x.id] = x.offer()
	l := []view.Offer{}
	for node := range x.nodes {
		if m, ok := x.offers[node]; ok {
			l = append(l, view.Offer{Node: node, Normal: m.Normal, Len: len(m.Entries)})
			x.learn(m.Commit)
		}
	}
	best, _ := view.Best(l)
	x.replace(0, x.offers[l[best].Node].Entries)
	x.settle()
	x.sayToAll(msg.Message{Kind: msg.Start, View: x.meta.View, Commit: x.commit, Entries: x.entries()})
}
