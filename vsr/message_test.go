package vsr

import (
	"math"
	"slices"
	"strings"
	"testing"

	"cartulary/api"
	"cartulary/msg"
	"cartulary/replog"
)

func bytesOf(t *testing.T, m msg.Message) string {
	t.Helper()
	s, e := msg.Encode(m)
	if e != api.OK {
		t.Fatalf("%v: %v", m, e)
	}
	return s
}

// entries are so many of a view, of client 1's requests from one on.
func entries(view, from, many int) []api.Entry {
	l := []api.Entry{}
	for i := range many {
		l = append(l, api.Entry{View: view, Client: 1, Req: from + i, Op: create("/a")})
	}
	return l
}

// sent is a message that is sent.
type sent struct {
	to int
	m  msg.Message
}

// sends holds that a call did nothing but to send messages, in that order.
func sends(t *testing.T, d Done, want ...sent) {
	t.Helper()
	if len(d.Replies) != 0 || len(d.Outs) != len(want) {
		t.Fatalf("%d replies, %d messages; want %v", len(d.Replies), len(d.Outs), want)
	}
	for i, w := range want {
		if m, e := msg.Decode(d.Outs[i].Text); e != api.OK || d.Outs[i].To != w.to || d.Outs[i].Text != bytesOf(t, w.m) {
			t.Fatalf("message %d: to %d, %v, %v; want to %d, %v", i, d.Outs[i].To, m, e, w.to, w.m)
		}
	}
}

// toAll are the same message to each of some nodes.
func toAll(m msg.Message, to ...int) []sent {
	l := []sent{}
	for _, n := range to {
		l = append(l, sent{n, m})
	}
	return l
}

func hear(t *testing.T, x *Node, from int, m msg.Message) Done {
	t.Helper()
	return x.Message(from, bytesOf(t, m))
}

// deaf holds that a message does nothing at all, not even at the next flush.
func deaf(t *testing.T, x *Node, from int, m msg.Message) {
	t.Helper()
	was, log, waiting := x.Stand(), x.Log(), len(x.waiting)
	nothing(t, hear(t, x, from, m))
	stands(t, x, was)
	if !slices.Equal(x.Log(), log) || len(x.waiting) != waiting {
		t.Fatalf("%v of %d: %v, %d wait", m, from, x.Log(), len(x.waiting))
	}
}

// primary is node 0 of some nodes, with so many entries, which are flushed.
func primary(t *testing.T, n, many int) *Node {
	t.Helper()
	x := node(t, 0, n)
	for i := range many {
		x.Call(1, i+1, create("/a"))
	}
	x.Flush()
	return x
}

// follower is a node of view 0 with so many entries, which are flushed.
func follower(t *testing.T, id, n, many int) *Node {
	t.Helper()
	x := node(t, id, n)
	hear(t, x, 0, msg.Message{Kind: msg.Prepare, Entries: entries(0, 1, many)})
	x.Flush()
	stands(t, x, Stand{Up: true, Normal: true, Len: many, Flushed: many})
	return x
}

// 24.1, 24.3

func TestStrangers(t *testing.T) {
	m := msg.Message{Kind: msg.Start, View: 3, Commit: 1, Entries: entries(0, 1, 2)}
	s := bytesOf(t, m)
	x := follower(t, 1, 3, 3)
	hear(t, x, 0, msg.Message{Kind: msg.Prepare, At: 3, Entries: entries(0, 4, 1)})
	was, log := x.Stand(), x.Log()
	same := func(d Done) {
		t.Helper()
		nothing(t, d)
		stands(t, x, was)
		if !slices.Equal(x.Log(), log) {
			t.Fatal("the log is changed")
		}
	}
	for _, from := range []int{math.MinInt, -1, 1, 3, 4, 7, math.MaxInt} {
		same(x.Message(from, s))
		for kind := msg.Prepare; kind <= msg.Tell; kind++ {
			same(x.Message(from, bytesOf(t, msg.Message{Kind: kind, View: 4, At: 1, Commit: 1})))
			same(x.Message(from, bytesOf(t, msg.Message{Kind: kind, At: 1, Commit: 1})))
			nothing(t, primary(t, 3, 2).Message(max(from, 3), bytesOf(t, msg.Message{Kind: kind, At: 2})))
		}
	}
	for i := range s {
		same(x.Message(0, s[:i]))
		for bit := range 8 {
			b := []byte(s)
			b[i] ^= 1 << bit
			same(x.Message(0, string(b)))
		}
	}
	same(x.Message(0, ""))
	same(x.Message(0, s+"x"))
	same(x.Message(2, strings.Repeat("x", 70000)))
	// A single node has no other one.
	y := node(t, 0, 1)
	for from := range 3 {
		nothing(t, y.Message(from, s))
	}
	stands(t, y, Stand{Up: true, Normal: true})
	// And it is one that it would have heard.
	sendsLater(t, x, hear(t, x, 0, m), sent{0, msg.Message{Kind: msg.Acked, At: 4}}, sent{0, msg.Message{Kind: msg.Acked, View: 3, At: 2}})
}

// sendsLater holds that a call said nothing yet, and what the flush sends.
func sendsLater(t *testing.T, x *Node, d Done, want ...sent) {
	t.Helper()
	nothing(t, d)
	sends(t, x.Flush(), want...)
	nothing(t, x.Flush())
}

// More entries than a log has are no node's.
func TestTooManyEntries(t *testing.T) {
	l := make([]api.Entry, replog.MaxLog+1)
	for i := range l {
		l[i] = api.Entry{Client: i % 128, Req: 1 + i/128}
	}
	for kind := msg.Prepare; kind <= msg.Tell; kind++ {
		deaf(t, follower(t, 1, 3, 2), 0, msg.Message{Kind: kind, View: 3, Entries: l})
		deaf(t, follower(t, 1, 3, 2), 0, msg.Message{Kind: kind, Entries: l})
	}
	x := follower(t, 1, 3, 0)
	hear(t, x, 0, msg.Message{Kind: msg.Start, View: 3, Entries: l[1:]})
	stands(t, x, Stand{Up: true, Normal: true, View: 3, Len: replog.MaxLog})
}

// The primary

func TestCallSends(t *testing.T) {
	for _, n := range []int{1, 3, 5, 7} {
		x := node(t, 0, n)
		others := []int{1, 2, 3, 4, 5, 6}[:n-1]
		e := api.Entry{Client: 5, Req: 9, Op: create("/a")}
		first := msg.Message{Kind: msg.Prepare, Entries: []api.Entry{e}}
		sendsLater(t, x, x.Call(5, 9, e.Op), toAll(first, others...)...)
		// Each entry is sent by itself, also where the one ahead was not acked.
		f := api.Entry{Client: 5, Req: 10, Op: create("/b")}
		g := api.Entry{Client: 5, Req: 11, Op: create("/c")}
		nothing(t, x.Call(5, 10, f.Op))
		second := msg.Message{Kind: msg.Prepare, At: 1, Commit: x.Stand().Commit, Entries: []api.Entry{f}}
		third := msg.Message{Kind: msg.Prepare, At: 2, Commit: x.Stand().Commit, Entries: []api.Entry{g}}
		sendsLater(t, x, x.Call(5, 11, g.Op), append(toAll(second, others...), toAll(third, others...)...)...)
		// What is there already is not sent anew.
		sendsLater(t, x, x.Call(5, 11, g.Op))
	}
}

func TestPrimaryTick(t *testing.T) {
	x := primary(t, 3, 20)
	all := x.Log()
	prepare := func(at, commit, to int) msg.Message {
		return msg.Message{Kind: msg.Prepare, At: at, Commit: commit, Entries: all[at:to]}
	}
	for range 40 {
		sends(t, x.Tick(), toAll(prepare(0, 0, 8), 1, 2)...)
	}
	nothing(t, hear(t, x, 2, msg.Message{Kind: msg.Acked, At: 5}))
	sends(t, x.Tick(), sent{1, prepare(0, 5, 8)}, sent{2, prepare(5, 5, 13)})
	// The greatest one counts.
	hear(t, x, 2, msg.Message{Kind: msg.Acked, At: 15})
	hear(t, x, 2, msg.Message{Kind: msg.Acked, At: 12})
	hear(t, x, 1, msg.Message{Kind: msg.Acked, At: 20})
	sends(t, x.Tick(), sent{1, prepare(20, 20, 20)}, sent{2, prepare(15, 20, 20)})
	stands(t, x, Stand{Up: true, Normal: true, Len: 20, Flushed: 20, Commit: 20})
	// With something unflushed ahead of it, it waits.
	x.Call(1, 21, create("/a"))
	all = x.Log()
	last := toAll(msg.Message{Kind: msg.Prepare, At: 20, Commit: 20, Entries: all[20:]}, 1, 2)
	sendsLater(t, x, x.Tick(), append(last, sent{1, prepare(20, 20, 21)}, sent{2, prepare(15, 20, 21)})...)
	nothing(t, node(t, 0, 1).Tick())
}

func TestAcked(t *testing.T) {
	x := primary(t, 5, 6)
	commit := func(want int) {
		t.Helper()
		stands(t, x, Stand{Up: true, Normal: true, Len: x.Stand().Len, Flushed: x.Stand().Flushed, Commit: want})
	}
	nothing(t, hear(t, x, 1, msg.Message{Kind: msg.Acked, At: 6}))
	commit(0)
	nothing(t, hear(t, x, 1, msg.Message{Kind: msg.Acked, At: 6}))
	commit(0)
	nothing(t, hear(t, x, 3, msg.Message{Kind: msg.Acked, At: 2}))
	commit(2)
	hear(t, x, 4, msg.Message{Kind: msg.Acked, At: 4})
	commit(4)
	// Less never makes it less.
	hear(t, x, 4, msg.Message{Kind: msg.Acked, At: 0})
	commit(4)
	// Of another view it is nothing.
	deaf(t, x, 3, msg.Message{Kind: msg.Acked, View: 5, At: 6})
	hear(t, x, 3, msg.Message{Kind: msg.Acked, At: 6})
	commit(6)
	// Its own counts as far as it is flushed: here enough others have nothing but that.
	y := primary(t, 3, 1)
	y.Call(1, 2, create("/a"))
	hear(t, y, 1, msg.Message{Kind: msg.Acked, At: 2})
	stands(t, y, Stand{Up: true, Normal: true, Len: 2, Flushed: 1, Commit: 1})
	y.Flush()
	stands(t, y, Stand{Up: true, Normal: true, Len: 2, Flushed: 2, Commit: 2})
	// Others than the primary don't count.
	deaf(t, follower(t, 1, 3, 2), 2, msg.Message{Kind: msg.Acked, At: 2})
	z := changing(t, 3, 8, 5, 3)
	deaf(t, z, 4, msg.Message{Kind: msg.Acked, View: 8, At: 3})
	deaf(t, z, 1, msg.Message{Kind: msg.Acked, View: 8, At: 3})
}

// changing is a node that changes to a view, with so many entries of view 0, all of it flushed.
func changing(t *testing.T, id, v, n, many int) *Node {
	t.Helper()
	x := primary(t, n, many)
	if id != 0 {
		x = follower(t, id, n, many)
	}
	hear(t, x, (id+1)%n, msg.Message{Kind: msg.Change, View: v})
	x.Flush()
	stands(t, x, Stand{Up: true, View: v, Len: many, Flushed: many})
	return x
}

// Followers

func TestPrepare(t *testing.T) {
	x := node(t, 2, 3)
	acked := func(at int) sent { return sent{0, msg.Message{Kind: msg.Acked, At: at}} }
	prepare := func(at, commit, many int) Done {
		t.Helper()
		return hear(t, x, 0, msg.Message{Kind: msg.Prepare, At: at, Commit: commit, Entries: entries(0, at+1, many)})
	}
	// Without anything new it is acked at once.
	sends(t, prepare(0, 0, 0), acked(0))
	sendsLater(t, x, prepare(0, 0, 2), acked(2))
	sends(t, prepare(0, 0, 2), acked(2))
	sends(t, prepare(1, 0, 1), acked(2))
	// Those that it has are there already; others follow.
	sendsLater(t, x, prepare(1, 1, 4), acked(5))
	stands(t, x, Stand{Up: true, Normal: true, Len: 5, Flushed: 5, Commit: 1})
	// With a gap nothing follows.
	sends(t, prepare(6, 1, 3), acked(5))
	sends(t, prepare(api.MaxSeq, api.MaxSeq, 0), acked(5))
	stands(t, x, Stand{Up: true, Normal: true, Len: 5, Flushed: 5, Commit: 5})
	if !slices.Equal(x.Log(), entries(0, 1, 5)) {
		t.Errorf("%v", x.Log())
	}
	// The commit goes up to its last one, and never back.
	nothing(t, prepare(5, 100, 2))
	stands(t, x, Stand{Up: true, Normal: true, Len: 7, Flushed: 5, Commit: 7})
	sendsLater(t, x, prepare(7, 3, 0), acked(7), acked(7))
	stands(t, x, Stand{Up: true, Normal: true, Len: 7, Flushed: 7, Commit: 7})
	// Only the primary prepares.
	deaf(t, x, 1, msg.Message{Kind: msg.Prepare, At: 7, Commit: 9, Entries: entries(0, 8, 1)})
	deaf(t, x, 0, msg.Message{Kind: msg.Prepare, View: 1, At: 7, Entries: entries(0, 8, 1)})
	deaf(t, x, 0, msg.Message{Kind: msg.Prepare, View: 2, At: 7, Entries: entries(0, 8, 1)})
	deaf(t, primary(t, 3, 1), 1, msg.Message{Kind: msg.Prepare, At: 1, Entries: entries(0, 8, 1)})
}

// An entry whose View is below the last one's does not follow.
func TestPrepareFalls(t *testing.T) {
	x := node(t, 2, 3)
	hear(t, x, 0, msg.Message{Kind: msg.Prepare, Entries: entries(5, 1, 2)})
	x.Flush()
	sends(t, hear(t, x, 0, msg.Message{Kind: msg.Prepare, At: 2, Entries: entries(4, 3, 2)}), sent{0, msg.Message{Kind: msg.Acked, At: 2}})
	stands(t, x, Stand{Up: true, Normal: true, Len: 2, Flushed: 2})
}

func TestPrepareOfGreater(t *testing.T) {
	x := follower(t, 2, 3, 4)
	hear(t, x, 0, msg.Message{Kind: msg.Prepare, At: 4, Commit: 3})
	ask := sent{1, msg.Message{Kind: msg.Ask, View: 4, At: 3}}
	m := msg.Message{Kind: msg.Prepare, View: 4, At: 4, Commit: 5, Entries: entries(4, 5, 2)}
	// It says no Change: its view is the primary's already.
	sendsLater(t, x, hear(t, x, 1, m), ask)
	stands(t, x, Stand{Up: true, View: 4, Len: 4, Flushed: 4, Commit: 3})
	sends(t, hear(t, x, 1, m), ask)
	// A lesser view's is nothing now.
	deaf(t, x, 0, msg.Message{Kind: msg.Prepare, View: 3, At: 4, Entries: entries(3, 5, 2)})
	deaf(t, x, 0, msg.Message{Kind: msg.Prepare, View: 0, At: 4})
	deaf(t, x, 0, m)
	// A primary of an older view learns of it so, too.
	y := primary(t, 3, 2)
	sendsLater(t, y, hear(t, y, 1, msg.Message{Kind: msg.Prepare, View: 1}), sent{1, msg.Message{Kind: msg.Ask, View: 1}})
	stands(t, y, Stand{Up: true, View: 1, Len: 2, Flushed: 2})
}

func TestAsk(t *testing.T) {
	x := follower(t, 1, 3, 5)
	hear(t, x, 0, msg.Message{Kind: msg.Prepare, At: 5, Commit: 2})
	for at := range 6 {
		tell := msg.Message{Kind: msg.Tell, At: at, Commit: 2, Entries: entries(0, at+1, 5-at)}
		sends(t, hear(t, x, 2, msg.Message{Kind: msg.Ask, At: at}), sent{2, tell})
		sends(t, hear(t, x, 0, msg.Message{Kind: msg.Ask, At: at}), sent{0, tell})
	}
	deaf(t, x, 2, msg.Message{Kind: msg.Ask, At: 6})
	deaf(t, x, 2, msg.Message{Kind: msg.Ask, At: api.MaxSeq})
	deaf(t, x, 2, msg.Message{Kind: msg.Ask, View: 1, At: 1})
	deaf(t, changing(t, 1, 3, 3, 5), 0, msg.Message{Kind: msg.Ask, View: 3})
	deaf(t, changing(t, 1, 3, 3, 5), 0, msg.Message{Kind: msg.Ask, View: 0})
	// What it tells is flushed first.
	hear(t, x, 0, msg.Message{Kind: msg.Prepare, At: 5, Entries: entries(0, 6, 1)})
	sendsLater(t, x, hear(t, x, 2, msg.Message{Kind: msg.Ask, At: 5}), sent{0, msg.Message{Kind: msg.Acked, At: 6}}, sent{2, msg.Message{Kind: msg.Tell, At: 5, Commit: 2, Entries: entries(0, 6, 1)}})
}

func TestTell(t *testing.T) {
	asking := func() *Node {
		x := follower(t, 2, 3, 4)
		hear(t, x, 0, msg.Message{Kind: msg.Prepare, At: 4, Commit: 2})
		hear(t, x, 1, msg.Message{Kind: msg.Prepare, View: 4})
		x.Flush()
		stands(t, x, Stand{Up: true, View: 4, Len: 4, Flushed: 4, Commit: 2})
		return x
	}
	m := msg.Message{Kind: msg.Tell, View: 4, At: 2, Commit: 5, Entries: entries(4, 8, 3)}
	for _, wrong := range []msg.Message{
		{Kind: msg.Tell, View: 1, At: 2, Entries: m.Entries}, {Kind: msg.Tell, View: 7, At: 2, Entries: m.Entries},
		{Kind: msg.Tell, View: 4, At: 1, Entries: m.Entries}, {Kind: msg.Tell, View: 4, At: 3, Entries: m.Entries},
	} {
		deaf(t, asking(), 1, wrong)
	}
	x := asking()
	// It says nothing: its next Prepare is acked.
	sendsLater(t, x, hear(t, x, 1, m))
	stands(t, x, Stand{Up: true, Normal: true, View: 4, Len: 5, Flushed: 5, Commit: 5})
	if want := append(entries(0, 1, 2), m.Entries...); !slices.Equal(x.Log(), want) {
		t.Errorf("%v", x.Log())
	}
	// One that is normal is told nothing.
	deaf(t, x, 1, msg.Message{Kind: msg.Tell, View: 4, At: 5, Entries: entries(4, 20, 1)})
	// A lesser commit is none; nothing behind At cuts the log.
	y := asking()
	hear(t, y, 1, msg.Message{Kind: msg.Tell, View: 4, At: 2, Commit: 1})
	stands(t, y, Stand{Up: true, Normal: true, View: 4, Len: 2, Flushed: 2, Commit: 2})
	y.Crash(nil, 0)
	y.Start()
	stands(t, y, Stand{Up: true, View: 4, Len: 4, Flushed: 4})
	// Entries whose Views would fall are no log.
	z := changing(t, 2, 4, 3, 0)
	hear(t, z, 1, msg.Message{Kind: msg.Start, View: 4, Commit: 1, Entries: entries(4, 1, 1)})
	hear(t, z, 1, msg.Message{Kind: msg.Prepare, View: 7})
	z.Flush()
	deaf(t, z, 1, msg.Message{Kind: msg.Tell, View: 7, At: 1, Entries: entries(3, 2, 1)})
}

// Views

// patience ticks as often as a node waits, and holds that it changes with the last one.
func patience(t *testing.T, x *Node, ticks, v int, to ...int) {
	t.Helper()
	was := x.Stand()
	for range ticks - 1 {
		nothing(t, x.Tick())
		stands(t, x, was)
	}
	nothing(t, x.Tick())
	was.View, was.Normal = v, false
	stands(t, x, was)
	sends(t, x.Flush(), toAll(msg.Message{Kind: msg.Change, View: v}, to...)...)
}

func TestPatience(t *testing.T) {
	patience(t, node(t, 1, 3), 10, 1, 0, 2)
	patience(t, node(t, 2, 3), 12, 1, 0, 1)
	patience(t, node(t, 6, 7), 20, 1, 0, 1, 2, 3, 4, 5)
	// One that is changing counts on, the view's primary too, and node 0.
	x := changing(t, 1, 4, 3, 2)
	patience(t, x, 10, 5, 0, 2)
	patience(t, x, 10, 6, 0, 2)
	patience(t, changing(t, 0, 4, 3, 2), 8, 5, 1, 2)
	// Behind a start it counts from 0 on.
	for range 9 {
		x.Tick()
	}
	x.Crash(nil, 0)
	x.Start()
	patience(t, x, 10, 7, 0, 2)
}

// What is heard of the view's primary has it count anew; what others say does not.
func TestHeard(t *testing.T) {
	for _, c := range []struct {
		from  int
		m     msg.Message
		heard bool
	}{
		{0, msg.Message{Kind: msg.Prepare}, true},
		{0, msg.Message{Kind: msg.Prepare, At: 7, Entries: entries(0, 8, 1)}, true},
		{2, msg.Message{Kind: msg.Prepare}, false},
		{2, msg.Message{Kind: msg.Ask, At: 0}, false},
		{2, msg.Message{Kind: msg.Acked, At: 0}, false},
		{0, msg.Message{Kind: msg.Acked, View: 1}, false},
	} {
		x := node(t, 1, 3)
		for range 9 {
			x.Tick()
		}
		hear(t, x, c.from, c.m)
		x.Tick()
		if v := x.Stand().View; (v == 0) != c.heard {
			t.Errorf("%v of %d: view %d", c.m, c.from, v)
		}
	}
	// A Prepare of a lesser view is not heard, though that node is its view's primary too.
	x := changing(t, 1, 3, 3, 0)
	for range 9 {
		x.Tick()
	}
	deaf(t, x, 0, msg.Message{Kind: msg.Prepare})
	x.Tick()
	stands(t, x, Stand{Up: true, View: 4})
	// One of its own is, while it is changing.
	x = changing(t, 1, 3, 3, 0)
	for range 9 {
		x.Tick()
	}
	hear(t, x, 0, msg.Message{Kind: msg.Prepare, View: 3})
	patience(t, x, 10, 4, 0, 2)
	// So are a Start and a Tell.
	for _, m := range []msg.Message{{Kind: msg.Start, View: 3}, {Kind: msg.Tell, View: 3}} {
		x = changing(t, 1, 3, 3, 0)
		for range 9 {
			x.Tick()
		}
		hear(t, x, 0, m)
		x.Flush()
		patience(t, x, 10, 4, 0, 2)
	}
}

// There is no view behind the last one.
func TestLastView(t *testing.T) {
	x := node(t, 0, 3)
	hear(t, x, 2, msg.Message{Kind: msg.Change, View: api.MaxSeq})
	stands(t, x, Stand{Up: true, View: api.MaxSeq})
	x.Flush()
	for range 100 {
		nothing(t, x.Tick())
	}
	nothing(t, x.Flush())
	stands(t, x, Stand{Up: true, View: api.MaxSeq})
}

func TestChange(t *testing.T) {
	x := follower(t, 2, 5, 3)
	hear(t, x, 0, msg.Message{Kind: msg.Prepare, At: 3, Commit: 1})
	change := msg.Message{Kind: msg.Change, View: 6}
	offer := sent{1, msg.Message{Kind: msg.Offer, View: 6, At: 3, Commit: 1, Entries: entries(0, 1, 3)}}
	// With itself and the one that said it two have changed; three are enough.
	sendsLater(t, x, hear(t, x, 4, change), toAll(change, 0, 1, 3, 4)...)
	stands(t, x, Stand{Up: true, View: 6, Len: 3, Flushed: 3, Commit: 1})
	nothing(t, hear(t, x, 4, change))
	sends(t, hear(t, x, 0, change), offer)
	sends(t, hear(t, x, 1, change), offer)
	// Of a lesser view it is nothing.
	for v := range 6 {
		deaf(t, x, 3, msg.Message{Kind: msg.Change, View: v})
	}
	// Who changed to one view has not to the next.
	x.Message(3, bytesOf(t, msg.Message{Kind: msg.Change, View: 8}))
	sends(t, x.Flush(), toAll(msg.Message{Kind: msg.Change, View: 8}, 0, 1, 3, 4)...)
	nothing(t, hear(t, x, 3, msg.Message{Kind: msg.Change, View: 8}))
	sends(t, hear(t, x, 0, msg.Message{Kind: msg.Change, View: 8}), sent{3, msg.Message{Kind: msg.Offer, View: 8, At: 3, Commit: 1, Entries: entries(0, 1, 3)}})
	// One that is normal in that view does nothing.
	deaf(t, follower(t, 1, 3, 2), 2, msg.Message{Kind: msg.Change})
	deaf(t, primary(t, 3, 2), 1, msg.Message{Kind: msg.Change})
	// Of three nodes one other is enough; the primary's own offer stays with it.
	y := follower(t, 2, 3, 1)
	one := msg.Message{Kind: msg.Change, View: 1}
	sendsLater(t, y, hear(t, y, 0, one), append(toAll(one, 0, 1), sent{1, msg.Message{Kind: msg.Offer, View: 1, At: 1, Entries: entries(0, 1, 1)}})...)
	z := follower(t, 1, 3, 1)
	sendsLater(t, z, hear(t, z, 0, one), toAll(one, 0, 2)...)
	sendsLater(t, z, hear(t, z, 2, one))
	stands(t, z, Stand{Up: true, View: 1, Len: 1, Flushed: 1})
}

func TestOffer(t *testing.T) {
	x := follower(t, 1, 5, 3)
	hear(t, x, 0, msg.Message{Kind: msg.Prepare, At: 3, Commit: 2})
	longer := msg.Message{Kind: msg.Offer, View: 1, At: 4, Commit: 1, Entries: entries(0, 1, 4)}
	sendsLater(t, x, hear(t, x, 3, longer), toAll(msg.Message{Kind: msg.Change, View: 1}, 0, 2, 3, 4)...)
	stands(t, x, Stand{Up: true, View: 1, Len: 3, Flushed: 3, Commit: 2})
	// The same node's anew is no other one's.
	nothing(t, hear(t, x, 3, longer))
	stands(t, x, Stand{Up: true, View: 1, Len: 3, Flushed: 3, Commit: 2})
	deaf(t, x, 4, msg.Message{Kind: msg.Offer, At: 4, Entries: entries(0, 1, 4)})
	nothing(t, hear(t, x, 4, msg.Message{Kind: msg.Offer, View: 1, At: 2, Commit: 2, Entries: entries(0, 1, 2)}))
	stands(t, x, Stand{Up: true, Normal: true, View: 1, Len: 4, Flushed: 3, Commit: 2})
	start := msg.Message{Kind: msg.Start, View: 1, Commit: 2, Entries: entries(0, 1, 4)}
	sends(t, x.Flush(), toAll(start, 0, 2, 3, 4)...)
	stands(t, x, Stand{Up: true, Normal: true, View: 1, Len: 4, Flushed: 4, Commit: 2})
	// It is normal now: a further one comes too late.
	deaf(t, x, 2, msg.Message{Kind: msg.Offer, View: 1, Normal: 0, At: 9, Commit: 9, Entries: entries(0, 1, 9)})
	// And it leads.
	e := api.Entry{View: 1, Client: 7, Req: 1, Op: create("/z")}
	nothing(t, x.Call(7, 1, e.Op))
	sends(t, x.Flush(), toAll(msg.Message{Kind: msg.Prepare, View: 1, At: 4, Commit: 2, Entries: []api.Entry{e}}, 0, 2, 3, 4)...)
}

// An offer is one of its view, and for its primary alone.
func TestOfferElsewhere(t *testing.T) {
	// What was offered in view 1 is not in view 6, which the same node leads.
	x := follower(t, 1, 5, 3)
	hear(t, x, 3, msg.Message{Kind: msg.Offer, View: 1})
	hear(t, x, 4, msg.Message{Kind: msg.Offer, View: 6})
	x.Flush()
	stands(t, x, Stand{Up: true, View: 6, Len: 3, Flushed: 3})
	deaf(t, x, 2, msg.Message{Kind: msg.Offer, View: 1})
	deaf(t, x, 3, msg.Message{Kind: msg.Offer, View: 1})
	hear(t, x, 3, msg.Message{Kind: msg.Offer, View: 6})
	stands(t, x, Stand{Up: true, Normal: true, View: 6, Len: 3, Flushed: 3})
	// One who does not lead that view changes to it, and no more.
	y := follower(t, 2, 3, 1)
	sendsLater(t, y, hear(t, y, 0, msg.Message{Kind: msg.Offer, View: 4}), toAll(msg.Message{Kind: msg.Change, View: 4}, 0, 1)...)
	deaf(t, y, 0, msg.Message{Kind: msg.Offer, View: 4, At: 2, Entries: entries(0, 1, 2)})
	stands(t, y, Stand{Up: true, View: 4, Len: 1, Flushed: 1})
}

// The best offer is the latest normal one's, then the longest; the commit is the greatest of all.
func TestBestOffer(t *testing.T) {
	late := append(entries(0, 1, 1), entries(3, 10, 1)...)
	for _, c := range []struct {
		m      msg.Message
		want   []api.Entry
		commit int
	}{
		{msg.Message{Kind: msg.Offer, View: 7, Normal: 3, At: 2, Commit: 1, Entries: late}, late, 1},
		{msg.Message{Kind: msg.Offer, View: 7, Normal: 0, At: 9, Commit: 5, Entries: entries(0, 1, 9)}, entries(0, 1, 9), 5},
		{msg.Message{Kind: msg.Offer, View: 7, Normal: 0, At: 2, Commit: 2, Entries: entries(0, 1, 2)}, entries(0, 1, 4), 2},
		{msg.Message{Kind: msg.Offer, View: 7}, entries(0, 1, 4), 0},
	} {
		x := follower(t, 1, 3, 4)
		hear(t, x, 2, c.m)
		stands(t, x, Stand{Up: true, Normal: true, View: 7, Len: len(c.want), Flushed: x.Stand().Flushed, Commit: c.commit})
		start := msg.Message{Kind: msg.Start, View: 7, Commit: c.commit, Entries: c.want}
		sends(t, x.Flush(), append(toAll(msg.Message{Kind: msg.Change, View: 7}, 0, 2), toAll(start, 0, 2)...)...)
		if !slices.Equal(x.Log(), c.want) {
			t.Errorf("%v; want %v", x.Log(), c.want)
		}
	}
	// Its own is always among them, and may be the best: it was normal in view 4.
	x := node(t, 2, 3)
	hear(t, x, 1, msg.Message{Kind: msg.Start, View: 4, Commit: 1, Entries: entries(4, 1, 1)})
	x.Flush()
	hear(t, x, 0, msg.Message{Kind: msg.Offer, View: 5, Normal: 3, At: 7, Commit: 1, Entries: entries(3, 1, 7)})
	stands(t, x, Stand{Up: true, Normal: true, View: 5, Len: 1, Flushed: 1, Commit: 1})
}

// What was acked in one view is not in the next.
func TestAcksOfViews(t *testing.T) {
	x := primary(t, 3, 6)
	hear(t, x, 1, msg.Message{Kind: msg.Acked, At: 4})
	hear(t, x, 1, msg.Message{Kind: msg.Offer, View: 3, At: 4, Entries: entries(0, 1, 4)})
	x.Flush()
	stands(t, x, Stand{Up: true, Normal: true, View: 3, Len: 6, Flushed: 6, Commit: 4})
	deaf(t, x, 1, msg.Message{Kind: msg.Acked, At: 6})
	deaf(t, x, 1, msg.Message{Kind: msg.Acked, View: 3, At: 0})
	tick := msg.Message{Kind: msg.Prepare, View: 3, Commit: 4, Entries: x.Log()}
	sends(t, x.Tick(), toAll(tick, 1, 2)...)
	hear(t, x, 2, msg.Message{Kind: msg.Acked, View: 3, At: 6})
	stands(t, x, Stand{Up: true, Normal: true, View: 3, Len: 6, Flushed: 6, Commit: 6})
	// Nor are they behind a crash.
	x.Crash(nil, 0)
	x.Start()
	stands(t, x, Stand{Up: true, Normal: true, View: 3, Len: 6, Flushed: 6})
	tick.Commit = 0
	sends(t, x.Tick(), toAll(tick, 1, 2)...)
}

func TestStart(t *testing.T) {
	m := msg.Message{Kind: msg.Start, View: 3, Commit: 2, Entries: append(entries(0, 1, 2), entries(3, 7, 3)...)}
	acked := sent{0, msg.Message{Kind: msg.Acked, View: 3, At: 5}}
	// Of a greater view.
	x := follower(t, 1, 3, 4)
	sendsLater(t, x, hear(t, x, 0, m), acked)
	stands(t, x, Stand{Up: true, Normal: true, View: 3, Len: 5, Flushed: 5, Commit: 2})
	if !slices.Equal(x.Log(), m.Entries) {
		t.Errorf("%v", x.Log())
	}
	// Of its own, when it is normal: nothing.
	deaf(t, x, 0, msg.Message{Kind: msg.Start, View: 3, Commit: 4})
	deaf(t, x, 0, msg.Message{Kind: msg.Start, View: 0, Commit: 4})
	// Of its own while it is changing.
	x = changing(t, 1, 3, 3, 4)
	deaf(t, x, 0, msg.Message{Kind: msg.Start, View: 0, Entries: m.Entries})
	deaf(t, x, 2, msg.Message{Kind: msg.Start, View: 3, Entries: m.Entries})
	deaf(t, x, 0, msg.Message{Kind: msg.Start, View: 4, Entries: m.Entries})
	sendsLater(t, x, hear(t, x, 0, m), acked)
	stands(t, x, Stand{Up: true, Normal: true, View: 3, Len: 5, Flushed: 5, Commit: 2})
	// The commit is the greater one.
	y := follower(t, 1, 3, 4)
	hear(t, y, 0, msg.Message{Kind: msg.Prepare, At: 4, Commit: 4})
	hear(t, y, 0, msg.Message{Kind: msg.Start, View: 6, Commit: 2, Entries: entries(0, 1, 4)})
	stands(t, y, Stand{Up: true, Normal: true, View: 6, Len: 4, Flushed: 4, Commit: 4})
}

// What lasts of a log that is another one now is what both have.
func TestFlushedOfAnother(t *testing.T) {
	for _, c := range []struct {
		l       []api.Entry
		flushed int
	}{
		{nil, 0},
		{entries(0, 1, 2), 2},
		{entries(0, 1, 4), 4},
		{entries(0, 1, 6), 4},
		{append(entries(0, 1, 3), entries(2, 4, 3)...), 3},
		{entries(0, 2, 5), 0},
	} {
		x := follower(t, 1, 3, 4)
		hear(t, x, 0, msg.Message{Kind: msg.Start, View: 3, Entries: c.l})
		stands(t, x, Stand{Up: true, Normal: true, View: 3, Len: len(c.l), Flushed: c.flushed})
		x.Crash(nil, 0)
		x.Start()
		stands(t, x, Stand{Up: true, Normal: true, Len: 4, Flushed: 4})
		hear(t, x, 0, msg.Message{Kind: msg.Start, View: 3, Entries: c.l})
		x.Flush()
		x.Crash(nil, 0)
		x.Start()
		stands(t, x, Stand{Up: true, Normal: true, View: 3, Len: len(c.l), Flushed: len(c.l)})
	}
}

// What waits is lost by a crash, with what it stands behind.
func TestWaitingIsLost(t *testing.T) {
	x := node(t, 1, 3)
	hear(t, x, 0, msg.Message{Kind: msg.Prepare, Entries: entries(0, 1, 1)})
	hear(t, x, 2, msg.Message{Kind: msg.Change, View: 5})
	x.Crash(nil, 0)
	nothing(t, x.Start())
	nothing(t, x.Flush())
	stands(t, x, Stand{Up: true, Normal: true})
	// Who changed ahead of it is forgotten.
	hear(t, x, 2, msg.Message{Kind: msg.Offer, View: 1})
	x.Flush()
	x.Crash(nil, 0)
	x.Start()
	stands(t, x, Stand{Up: true, Normal: true, View: 1})
}

// An entry is applied when it is committed and flushed; who called here is told here, whoever leads.
func TestApplied(t *testing.T) {
	x := primary(t, 3, 2)
	if l := work(t, x); len(l) != 0 {
		t.Fatalf("%v", l)
	}
	hear(t, x, 1, msg.Message{Kind: msg.Acked, At: 1})
	if l := work(t, x); len(l) != 1 || l[0].Req != 1 || l[0].Result.E != api.OK {
		t.Fatalf("%v", l)
	}
	// Node 1 leads now, and tells that the second is committed: it is not applied ahead of that view's flush.
	m := msg.Message{Kind: msg.Start, View: 1, Commit: 2, Entries: append(entries(0, 1, 2), entries(1, 3, 1)...)}
	hear(t, x, 1, m)
	refused(t, x, 1, 2, create("/a"), api.ErrState)
	stands(t, x, Stand{Up: true, Normal: true, View: 1, Len: 3, Flushed: 2, Commit: 2, Applied: 1})
	if l := work(t, x); len(l) != 0 {
		t.Fatalf("%v", l)
	}
	x.Flush()
	l := work(t, x)
	if len(l) != 1 || l[0].Req != 2 || l[0].Node != 0 || l[0].Result.E != api.Exists {
		t.Fatalf("%v", l)
	}
	// The fourth is committed, but not flushed: the third alone is applied. Nobody called them here.
	hear(t, x, 1, msg.Message{Kind: msg.Prepare, View: 1, At: 3, Commit: 4, Entries: entries(1, 4, 1)})
	if l := work(t, x); len(l) != 0 {
		t.Fatalf("%v", l)
	}
	stands(t, x, Stand{Up: true, Normal: true, View: 1, Len: 4, Flushed: 3, Commit: 4, Applied: 3})
	x.Flush()
	stands(t, x, Stand{Up: true, Normal: true, View: 1, Len: 4, Flushed: 4, Commit: 4, Applied: 3})
	if l := work(t, x); len(l) != 0 {
		t.Fatalf("%v", l)
	}
	stands(t, x, Stand{Up: true, Normal: true, View: 1, Len: 4, Flushed: 4, Commit: 4, Applied: 4})
	checkTree(t, small, x.Disk(), x.Log(), 4)
}

// What a crash brings back applied was committed in no later view than the one that it brings back.
func TestAppliedOfView(t *testing.T) {
	told := []msg.Message{
		{Kind: msg.Start, View: 3, Commit: 2, Entries: entries(0, 1, 3)},
		{Kind: msg.Prepare, View: 3, At: 3, Commit: 3},
	}
	for flushes := range 2 {
		x := follower(t, 1, 3, 3)
		hear(t, x, 0, msg.Message{Kind: msg.Prepare, At: 3, Commit: 1})
		for _, m := range told {
			hear(t, x, 0, m)
		}
		for range flushes {
			x.Flush()
		}
		// What view 0 told to be committed is applied in any case.
		work(t, x)
		applied := 1 + 2*flushes
		stands(t, x, Stand{Up: true, Normal: true, View: 3, Len: 3, Flushed: 3, Commit: 3, Applied: applied})
		x.Crash(nil, 0)
		x.Start()
		stands(t, x, Stand{Up: true, Normal: true, View: 3 * flushes, Len: 3, Flushed: 3, Commit: applied, Applied: applied})
	}
	// A view that is flushed while it is changing is told no less.
	x := changing(t, 1, 3, 3, 3)
	hear(t, x, 0, told[0])
	work(t, x)
	stands(t, x, Stand{Up: true, Normal: true, View: 3, Len: 3, Flushed: 3, Commit: 2, Applied: 2})
	// The primary that begins a view is told by offers what is committed.
	y := changing(t, 0, 2, 3, 3)
	hear(t, y, 1, msg.Message{Kind: msg.Offer, View: 3, At: 3, Commit: 3, Entries: entries(0, 1, 3)})
	work(t, y)
	stands(t, y, Stand{Up: true, Normal: true, View: 3, Len: 3, Flushed: 3, Commit: 3})
	y.Flush()
	work(t, y)
	stands(t, y, Stand{Up: true, Normal: true, View: 3, Len: 3, Flushed: 3, Commit: 3, Applied: 3})
}

// someNumber is one of a message that may do something: most often one of the node's own.
func someNumber(r *source, own int) int {
	return []int{own, own, own, own + 1, max(0, own-1), r.next(9), r.next(9), []int{0, api.MaxSeq, api.MaxSeq - 1, replog.MaxLog, replog.MaxLog + 1}[r.next(5)]}[r.next(8)]
}

// forged is a right message that no node need have sent.
func forged(r *source, x *Node) msg.Message {
	s := x.Stand()
	m := msg.Message{Kind: 1 + r.next(7), View: min(api.MaxSeq, someNumber(r, s.View)), Normal: min(api.MaxSeq, someNumber(r, s.View)), At: min(api.MaxSeq, someNumber(r, s.Len)), Commit: min(api.MaxSeq, someNumber(r, s.Len))}
	if r.next(3) == 0 {
		m.At = min(api.MaxSeq, s.Commit)
	}
	if r.next(3) == 0 {
		m.Entries = x.Log()
	}
	view := min(s.View, 3)
	if n := len(m.Entries); n > 0 {
		view = m.Entries[n-1].View
	}
	for range r.next(4) {
		view = min(api.MaxSeq, view+r.next(8)/7)
		m.Entries = append(m.Entries, api.Entry{View: view, Client: r.next(3), Req: 1 + r.next(9), Op: someOp(r)})
	}
	return m
}

// P1: whatever right messages say, every call ends, and says right messages.
func TestForged(t *testing.T) {
	for run := range 300 {
		r := &source{uint32(run)}
		n := []int{3, 3, 5, 7}[run%4]
		id := r.next(n)
		x := node(t, id, n)
		for range 300 {
			forgedStep(t, r, x, n)
		}
	}
}

func forgedStep(t *testing.T, r *source, x *Node, n int) {
	t.Helper()
	d := Done{}
	switch c := r.next(20); {
	case c < 9:
		m := forged(r, x)
		text, e := msg.Encode(m)
		if e != api.OK && e != api.ErrLong {
			t.Fatalf("%v: %v", m, e)
		}
		d = x.Message(r.next(n), text)
	case c < 11:
		d = x.Call(r.next(3), 1+r.next(9), someOp(r))
	case c < 13:
		d = x.Tick()
	case c < 15:
		d = x.Flush()
	case c < 18:
		for range r.next(30) {
			d.Outs = append(d.Outs, x.Work().Outs...)
		}
	case c < 19:
		x.Crash([]bool{r.next(2) == 0, r.next(2) == 0, true}, r.next(2))
	default:
		d = x.Start()
	}
	for _, o := range d.Outs {
		if _, e := msg.Decode(o.Text); e != api.OK || o.To < 0 || o.To >= n || o.To == x.id {
			t.Fatalf("to %d: %v", o.To, e)
		}
	}
	s := x.Stand()
	if s.Len != len(x.Log()) || s.Flushed > s.Len || s.View < 0 || s.View > api.MaxSeq || !s.Up && s != (Stand{}) {
		t.Fatalf("%+v", s)
	}
}
