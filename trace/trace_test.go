package trace

import (
	"math"
	"slices"
	"strconv"
	"strings"
	"testing"

	"cartulary/api"
)

func aShape() api.Shape { return api.Shape{Blocks: 40, Journal: 20, Inodes: 8} }

// call is a call of an operation on a node, as client's request req.
func calling(node, client, req int, op api.Op) api.Choice {
	return api.Choice{Kind: api.ChCall, Node: node, Client: client, Req: req, Op: op}
}

func create(p string) api.Op { return api.Op{Kind: api.OpCreate, Path: p} }

func entryOf(c api.Choice) api.Entry {
	return api.Entry{Client: c.Client, Req: c.Req, Op: c.Op}
}

func replyOf(c api.Choice, r api.Result) api.Reply {
	return api.Reply{Node: c.Node, Client: c.Client, Req: c.Req, Result: r}
}

func failed(c api.Choice, e api.Errno) api.Reply {
	return replyOf(c, api.Result{E: e})
}

func replies(l ...api.Reply) []api.Reply       { return l }
func entries(l ...api.Entry) []api.Entry       { return l }
func quiet(h ...api.Entry) Seen                { return Seen{Choice: api.Choice{Kind: api.ChTick}, H: h} }
func called(c api.Choice, h ...api.Entry) Seen { return Seen{Choice: c, H: h} }

func breaks(t *testing.T, l []Seen, rule, step int) {
	t.Helper()
	if n, at, e := Check(aShape(), l); n != rule || at != step || e != api.OK {
		t.Errorf("Check: rule %d, step %d, %v; want %d, %d", n, at, e, rule, step)
	}
	if n, at := plainCheck(aShape(), l); n != rule || at != step {
		t.Errorf("the plain rules: rule %d, step %d; want %d, %d", n, at, rule, step)
	}
}

func keeps(t *testing.T, l ...Seen) {
	t.Helper()
	breaks(t, l, 0, 0)
}

func TestExample(t *testing.T) {
	a := calling(0, 1, 1, create("/a"))
	breaks(t, []Seen{{Choice: a, Replies: replies(failed(a, api.OK))}}, 3, 0)
	breaks(t, []Seen{called(a), {Replies: replies(failed(a, api.OK))}}, 3, 1)
}

// 26.1

func TestWrong(t *testing.T) {
	long := make([]Seen, 4097)
	for _, l := range [][]Seen{nil, {}, {{}}, long, {called(calling(0, 1, 1, create("/a")), api.Entry{})}} {
		for _, s := range []api.Shape{{}, {Blocks: 15, Journal: 8, Inodes: 1}, {Blocks: 1025, Journal: 20, Inodes: 8}, {Blocks: 40, Journal: 7, Inodes: 8}, {Blocks: 40, Journal: 20, Inodes: 65}, {Blocks: 27, Journal: 20, Inodes: 8}, {Blocks: math.MaxInt, Journal: math.MinInt, Inodes: -1}} {
			if n, at, e := Check(s, l); n != 0 || at != 0 || e != api.ErrShape {
				t.Errorf("Check(%v, %d steps): %d, %d, %v", s, len(l), n, at, e)
			}
		}
	}
}

func tooLong(t *testing.T, l []Seen) {
	t.Helper()
	if n, at, e := Check(aShape(), l); n != 0 || at != 0 || e != api.ErrLong {
		t.Errorf("Check of %d steps: %d, %d, %v", len(l), n, at, e)
	}
}

func TestLong(t *testing.T) {
	a := calling(0, 1, 1, create("/a"))
	tooLong(t, make([]Seen, 4097))
	tooLong(t, make([]Seen, 5000))
	keeps(t, make([]Seen, 100)...)
	if n, at, e := Check(aShape(), make([]Seen, 4096)); n != 0 || at != 0 || e != api.OK {
		t.Errorf("4096 steps: %d, %d, %v", n, at, e)
	}
	many := make([]api.Reply, 4097)
	for i := range many {
		many[i] = failed(a, api.ErrState)
	}
	if n, at, e := Check(aShape(), []Seen{{Choice: a, Replies: many[:4096]}}); n != 0 || at != 0 || e != api.OK {
		t.Errorf("4096 replies: %d, %d, %v", n, at, e)
	}
	tooLong(t, []Seen{{Choice: a, Replies: many}})
	// It is asked of all steps ahead of the rules.
	broken := Seen{H: make([]api.Entry, 1)}
	tooLong(t, []Seen{broken, {Choice: a, Replies: many}})
	tooLong(t, []Seen{broken, {}, {H: make([]api.Entry, 4097)}})
	tooLong(t, append([]Seen{broken}, make([]Seen, 4096)...))
	if n, at, e := Check(aShape(), []Seen{{}, {H: make([]api.Entry, 4096)}}); n != 1 || at != 1 || e != api.OK {
		t.Errorf("4096 entries: %d, %d, %v", n, at, e)
	}
}

// A trace as long as may be: each request is called, is in the history and is replied.
func TestMost(t *testing.T) {
	l := make([]Seen, 4096)
	var h []api.Entry
	for i := range l {
		c := calling(i%3, i%7, i+1, api.Op{Kind: api.OpStat, Path: "/"})
		h = append(h, entryOf(c))
		l[i] = Seen{Choice: c, H: h[: i+1 : i+1], Replies: replies(replyOf(c, api.Result{Kind: api.KindDir, Links: 1}))}
	}
	if n, at, e := Check(aShape(), l); n != 0 || at != 0 || e != api.OK {
		t.Errorf("Check: %d, %d, %v", n, at, e)
	}
	if n, open := Replied(l), Open(l); n != 4096 || len(open) != 0 {
		t.Errorf("%d replied, %d open", n, len(open))
	}
	l[4095].H = slices.Clone(l[4095].H)
	l[4095].H[2047].View = 1
	if n, at, e := Check(aShape(), l); n != 1 || at != 4095 || e != api.OK {
		t.Errorf("Check: %d, %d, %v", n, at, e)
	}
}

func TestNone(t *testing.T) {
	keeps(t)
	keeps(t, Seen{})
	keeps(t, Seen{Replies: []api.Reply{}, H: []api.Entry{}}, Seen{}, quiet())
	if n := Replied(nil); n != 0 {
		t.Errorf("Replied: %d", n)
	}
	if l := Open(nil); len(l) != 0 {
		t.Errorf("Open: %v", l)
	}
	if l := Open([]Seen{{}, quiet()}); len(l) != 0 {
		t.Errorf("Open: %v", l)
	}
}

// Rule 1: each H begins with the one ahead.
func TestRule1Begins(t *testing.T) {
	a, b := calling(0, 1, 1, create("/a")), calling(0, 2, 1, create("/b"))
	x, y := entryOf(a), entryOf(b)
	keeps(t, called(a), called(b), quiet(x), quiet(x), quiet(x, y), quiet(x, y))
	keeps(t, called(a), called(b), quiet(x, y))
	keeps(t, called(a), called(b, y, x))
	breaks(t, []Seen{called(a), called(b, x), quiet()}, 1, 2)
	breaks(t, []Seen{called(a), called(b, x, y), quiet(x)}, 1, 2)
	breaks(t, []Seen{called(a), called(b, x), quiet(y)}, 1, 2)
	breaks(t, []Seen{called(a), called(b, x), quiet(y, x)}, 1, 2)
	breaks(t, []Seen{called(a), called(b, x, y), quiet(y, x)}, 1, 2)
	// Entries are the same only if all of them is, their Views too.
	later := x
	later.View = 1
	keeps(t, called(a, later), quiet(later))
	breaks(t, []Seen{called(a, x), quiet(later)}, 1, 1)
	other := x
	other.Op.Data = "d"
	breaks(t, []Seen{called(a, x), quiet(other)}, 1, 1)
	// Views may fall: that is no rule.
	keeps(t, called(a), called(b, later, y))
}

// Rule 1: each entry is right.
func TestRule1Right(t *testing.T) {
	for _, change := range []func(c *api.Choice){
		func(c *api.Choice) { c.Req = 0 },
		func(c *api.Choice) { c.Req = -1 },
		func(c *api.Choice) { c.Req = api.MaxSeq + 1 },
		func(c *api.Choice) { c.Client = -1 },
		func(c *api.Choice) { c.Client = math.MinInt },
		func(c *api.Choice) { c.Client = api.MaxSeq + 1 },
		func(c *api.Choice) { c.Op.Path = strings.Repeat("x", 4097) },
		func(c *api.Choice) { c.Op.To = strings.Repeat("x", 4097) },
		func(c *api.Choice) { c.Op.Data = strings.Repeat("x", 4097) },
	} {
		a := calling(0, 1, 1, create("/a"))
		change(&a)
		breaks(t, []Seen{called(a, entryOf(a))}, 1, 0)
		breaks(t, []Seen{called(a), quiet(), quiet(entryOf(a))}, 1, 2)
	}
	for _, view := range []int{-1, api.MaxSeq + 1} {
		a := calling(0, 1, 1, create("/a"))
		x := entryOf(a)
		x.View = view
		breaks(t, []Seen{called(a, x)}, 1, 0)
	}
	// At the edges they are.
	a := calling(0, api.MaxSeq, api.MaxSeq, api.Op{Kind: -1, Path: strings.Repeat("x", 4096)})
	x := entryOf(a)
	x.View = api.MaxSeq
	keeps(t, called(a, x))
	b := calling(0, 0, 1, api.Op{})
	keeps(t, called(b, entryOf(b)))
}

// Rule 1: no two are of the same request, and those of one client have rising Reqs.
func TestRule1Rising(t *testing.T) {
	var l []Seen
	var e []api.Entry
	for i := range 4 {
		c := calling(0, 1, i+1, create("/"+strconv.Itoa(i)))
		l, e = append(l, called(c)), append(e, entryOf(c))
	}
	other := calling(0, 2, 1, create("/a"))
	l = append(l, called(other))
	with := func(h ...api.Entry) []Seen { return append(slices.Clone(l), quiet(h...)) }
	keeps(t, with(e...)...)
	keeps(t, with(e[0], e[2])...)
	keeps(t, with(e[1], e[3])...)
	keeps(t, with(e[2], entryOf(other), e[3])...)
	breaks(t, with(e[1], e[0]), 1, 5)
	breaks(t, with(e[0], e[3], e[2]), 1, 5)
	breaks(t, with(e[0], e[0]), 1, 5)
	breaks(t, with(e[3], entryOf(other), e[3]), 1, 5)
	breaks(t, with(e[0], entryOf(other), e[1], entryOf(other)), 1, 5)
	// The same request with another View is the same one.
	again := e[0]
	again.View = 3
	breaks(t, with(e[0], again), 1, 5)
	// Ahead of the step is ahead, too.
	breaks(t, append(with(e[1]), quiet(e[1], e[0])), 1, 6)
	breaks(t, append(with(e[1]), quiet(e[1], e[1])), 1, 6)
	keeps(t, append(with(e[1]), quiet(e[1], e[2]))...)
}

// Rule 2: each reply's request was called, at this step or ahead, on its Node.
func TestRule2Called(t *testing.T) {
	a := calling(2, 1, 1, create("/a"))
	refused := func(c api.Choice) Seen { return Seen{Replies: replies(failed(c, api.ErrState))} }
	keeps(t, Seen{Choice: a, Replies: replies(failed(a, api.ErrState))})
	keeps(t, called(a), quiet(), refused(a))
	breaks(t, []Seen{refused(a)}, 2, 0)
	breaks(t, []Seen{refused(a), called(a)}, 2, 0)
	for _, other := range []api.Choice{calling(1, 1, 1, a.Op), calling(2, 2, 1, a.Op), calling(2, 1, 2, a.Op)} {
		breaks(t, []Seen{called(a), refused(other)}, 2, 1)
		keeps(t, called(a), called(other), refused(a), refused(other))
	}
	// It may have been called on several nodes; each of them may reply.
	again := calling(0, 1, 1, a.Op)
	x := entryOf(a)
	ok := func(c api.Choice) Seen { return Seen{Replies: replies(failed(c, api.OK)), H: entries(x)} }
	keeps(t, called(a), called(again), ok(a), ok(again), ok(a))
	breaks(t, []Seen{called(a), ok(a), ok(again)}, 2, 2)
	breaks(t, []Seen{called(a), {Choice: api.Choice{Kind: api.ChTick, Node: 0, Client: 1, Req: 1, Op: a.Op}, Replies: ok(again).Replies, H: entries(x)}}, 2, 1)
	// A request need not be right to be called and refused.
	wrong := calling(-7, -1, -5, api.Op{Kind: 99})
	keeps(t, Seen{Choice: wrong, Replies: replies(failed(wrong, api.ErrArg))})
	// Only calls call.
	for kind := range 12 {
		c := a
		c.Kind = kind
		l := []Seen{{Choice: c, Replies: replies(failed(a, api.ErrState))}}
		if kind == api.ChCall {
			keeps(t, l...)
		} else {
			breaks(t, l, 2, 0)
		}
	}
	// Each of the replies is looked at.
	breaks(t, []Seen{{Choice: a, Replies: replies(failed(a, api.ErrState), failed(again, api.ErrState))}}, 2, 0)
}

// Rule 2: a refusal has nothing but E.
func TestRule2Refusal(t *testing.T) {
	a := calling(0, 1, 1, create("/a"))
	for _, e := range []api.Errno{api.ErrArg, api.ErrFull, api.ErrState} {
		keeps(t, Seen{Choice: a, Replies: replies(failed(a, e))})
		keeps(t, Seen{Choice: a, Replies: replies(replyOf(a, api.Result{E: e, Names: []string{}}))})
		// Even if it is in H, or was replied.
		keeps(t, Seen{Choice: a, Replies: replies(failed(a, api.OK), failed(a, e)), H: entries(entryOf(a))}, Seen{Replies: replies(failed(a, e)), H: entries(entryOf(a))})
		for _, r := range []api.Result{{E: e, Data: "x"}, {E: e, Kind: 1}, {E: e, Links: 1}, {E: e, Size: -1}, {E: e, Names: []string{""}}} {
			breaks(t, []Seen{{Choice: a, Replies: replies(replyOf(a, r))}}, 2, 0)
			breaks(t, []Seen{{Choice: a, Replies: replies(failed(a, e), replyOf(a, r))}}, 2, 0)
		}
	}
	// All other errors are none.
	for _, e := range []api.Errno{api.OK, api.ErrLong, api.ErrForm, api.ErrNone, api.ErrCut, api.ErrSum, api.ErrShape, api.NoEntry, api.Exists, api.BadFile, 3, 6, 8, -1} {
		breaks(t, []Seen{{Choice: a, Replies: replies(failed(a, e))}}, 3, 0)
	}
}

// Rule 3: a reply's request is in H, and its Result is what H answers there.
func TestRule3(t *testing.T) {
	calls := []api.Choice{
		calling(0, 1, 1, create("/f")),
		calling(0, 1, 2, api.Op{Kind: api.OpWrite, Path: "/f", Data: "hello"}),
		calling(0, 1, 3, api.Op{Kind: api.OpRead, Path: "/f", N: 9}),
		calling(0, 1, 4, api.Op{Kind: api.OpStat, Path: "/f"}),
		calling(0, 1, 5, api.Op{Kind: api.OpLink, Path: "/f", To: "/e"}),
		calling(0, 1, 6, api.Op{Kind: api.OpList, Path: "/"}),
		calling(0, 1, 7, create("/f")),
		calling(0, 1, 8, api.Op{Kind: 77}),
	}
	results := []api.Result{{}, {}, {Data: "hello"}, {Kind: api.KindFile, Links: 1, Size: 5}, {}, {Names: []string{"e", "f"}}, {E: api.Exists}, {E: api.Invalid}}
	var l []Seen
	var h []api.Entry
	for _, c := range calls {
		l, h = append(l, called(c)), append(h, entryOf(c))
	}
	with := func(h []api.Entry, r ...api.Reply) []Seen { return append(slices.Clone(l), Seen{Replies: r, H: h}) }
	for i, c := range calls {
		keeps(t, with(h, replyOf(c, results[i]))...)
		keeps(t, with(h[:i+1], replyOf(c, results[i]))...)
		breaks(t, with(h[:i], replyOf(c, results[i])), 3, 8)
		for _, change := range []func(r *api.Result){
			func(r *api.Result) { r.E++ },
			func(r *api.Result) { r.Data += "x" },
			func(r *api.Result) { r.Kind++ },
			func(r *api.Result) { r.Links-- },
			func(r *api.Result) { r.Size++ },
			func(r *api.Result) { r.Names = append(slices.Clone(r.Names), "") },
			func(r *api.Result) { r.Names = append([]string{"e"}, r.Names...) },
		} {
			r := results[i]
			change(&r)
			if r.E == api.ErrArg {
				continue
			}
			breaks(t, with(h, replyOf(c, r)), 3, 8)
			breaks(t, with(h, replyOf(c, results[i]), replyOf(c, r)), 3, 8)
		}
	}
	breaks(t, with(h, replyOf(calls[5], api.Result{Names: []string{"f", "e"}})), 3, 8)
	breaks(t, with(h, replyOf(calls[5], api.Result{Names: []string{"e", "e"}})), 3, 8)
	breaks(t, with(h, replyOf(calls[5], api.Result{Names: []string{"e"}})), 3, 8)
	breaks(t, with(h, replyOf(calls[5], api.Result{})), 3, 8)
	keeps(t, with(h, replyOf(calls[0], api.Result{Names: []string{}}))...)
	// What an entry answers hangs on those ahead of it, in H, alone.
	two := []Seen{called(calls[0]), called(calls[6])}
	two = append(two, Seen{H: entries(h[6]), Replies: replies(failed(calls[6], api.OK))})
	keeps(t, two...)
	breaks(t, append(two, Seen{H: entries(h[6], h[0])}), 1, 3)
}

// What H answers hangs on the shape.
func TestRule3Shape(t *testing.T) {
	small, large := api.Shape{Blocks: 16, Journal: 8, Inodes: 1}, api.Shape{Blocks: 16, Journal: 8, Inodes: 2}
	a := calling(0, 1, 1, create("/a"))
	for _, c := range []struct {
		s    api.Shape
		e    api.Errno
		rule int
	}{{small, api.NoSpace, 0}, {small, api.OK, 3}, {large, api.OK, 0}, {large, api.NoSpace, 3}} {
		if n, at, e := Check(c.s, []Seen{{Choice: a, Replies: replies(failed(a, c.e)), H: entries(entryOf(a))}}); n != c.rule || at != 0 || e != api.OK {
			t.Errorf("%v, %v: %d, %d, %v", c.s, c.e, n, at, e)
		}
	}
}

// Rule 4: each entry of H is of a request that was called, and has its operation.
func TestRule4(t *testing.T) {
	a := calling(0, 1, 1, create("/a"))
	x := entryOf(a)
	breaks(t, []Seen{quiet(x)}, 4, 0)
	breaks(t, []Seen{quiet(x), called(a, x)}, 4, 0)
	breaks(t, []Seen{called(a), quiet(api.Entry{Client: 2, Req: 1})}, 4, 1)
	breaks(t, []Seen{quiet(), called(calling(0, 1, 2, a.Op), x)}, 4, 1)
	breaks(t, []Seen{quiet(), called(calling(0, 2, 1, a.Op), x)}, 4, 1)
	for _, change := range []func(o *api.Op){
		func(o *api.Op) { o.Kind = api.OpMkdir },
		func(o *api.Op) { o.At = 1 },
		func(o *api.Op) { o.N = 1 },
		func(o *api.Op) { o.Path = "/b" },
		func(o *api.Op) { o.To = "/b" },
		func(o *api.Op) { o.Data = "b" },
	} {
		b := a
		change(&b.Op)
		y := entryOf(b)
		breaks(t, []Seen{called(a, y)}, 4, 0)
		// The first call counts, wherever it was.
		breaks(t, []Seen{called(a), called(b, y)}, 4, 1)
		keeps(t, called(a), called(b, x))
		b.Node = 3
		breaks(t, []Seen{called(a), called(b, y)}, 4, 1)
		keeps(t, called(b), called(a), quiet(y))
	}
	later := x
	later.View = 9
	keeps(t, called(a, later))
}

// Rule 5 follows from the others, so no trace breaks it first; what it allows is kept.
func TestRule5(t *testing.T) {
	a, b := calling(0, 1, 1, create("/a")), calling(0, 2, 1, create("/b"))
	x, y := entryOf(a), entryOf(b)
	// Called ahead of the other's reply, or at it: either may stand ahead.
	keeps(t, called(a), called(b, y, x), Seen{Replies: replies(failed(a, api.OK), failed(b, api.OK)), H: entries(y, x)})
	keeps(t, called(a), Seen{Choice: b, Replies: replies(failed(a, api.OK)), H: entries(y, x)})
	keeps(t, Seen{Choice: a, Replies: replies(failed(a, api.OK)), H: entries(x)}, called(b, x), quiet(x, y))
	breaks(t, []Seen{{Choice: a, Replies: replies(failed(a, api.OK)), H: entries(y, x)}, called(b, y, x)}, 4, 0)
	breaks(t, []Seen{{Choice: a, Replies: replies(failed(a, api.OK)), H: entries(x)}, called(b, y, x)}, 1, 1)

	// Each rule by itself holds against what the others let pass here.
	w := newWatch(nil)
	w.calls[request{1, 1}] = call{op: a.Op}
	w.calls[request{2, 1}] = call{op: b.Op, least: 2}
	w.places[request{1, 1}], w.places[request{2, 1}] = 0, 1
	if w.isInTime(Seen{H: entries(x, y)}) {
		t.Error("an entry stands ahead of one that was replied when it was called")
	}
	w.calls[request{2, 1}] = call{op: b.Op, least: 1}
	if !w.isInTime(Seen{H: entries(x, y)}) {
		t.Error("an entry stands behind one that was replied when it was called")
	}
}

// What a watch knows of replies when a request is called.
func TestLeast(t *testing.T) {
	w := newWatch(nil)
	a, b := calling(0, 1, 1, create("/a")), calling(0, 2, 1, create("/b"))
	w.places[request{1, 1}], w.places[request{3, 1}] = 4, 2
	w.hear(a)
	w.pass(Seen{Replies: replies(failed(a, api.ErrFull))})
	w.hear(b)
	if n := w.calls[request{2, 1}].least; n != 0 {
		t.Errorf("behind a refusal: %d", n)
	}
	w.pass(Seen{Replies: replies(failed(a, api.OK), failed(calling(0, 3, 1, a.Op), api.OK))})
	w.hear(calling(0, 4, 1, a.Op))
	w.hear(b)
	if n, m := w.calls[request{4, 1}].least, w.calls[request{2, 1}].least; n != 5 || m != 0 {
		t.Errorf("behind a reply: %d, %d", n, m)
	}
}

// The first rule that a step breaks counts, of the first step that breaks one.
func TestOrder(t *testing.T) {
	a, b := calling(0, 1, 1, create("/a")), calling(0, 2, 1, create("/b"))
	x, y := entryOf(a), entryOf(b)
	wrong := x
	wrong.Req = 0
	bad2 := replies(failed(b, api.ErrState))
	bad3 := replies(failed(a, api.Exists))
	both := append(bad3, bad2...)
	breaks(t, []Seen{{Choice: a, Replies: both, H: entries(y, wrong)}}, 1, 0)
	breaks(t, []Seen{{Choice: a, Replies: both, H: entries(x, y)}}, 2, 0)
	breaks(t, []Seen{{Choice: a, Replies: bad2, H: entries(x, y)}}, 2, 0)
	breaks(t, []Seen{{Choice: a, Replies: bad3, H: entries(x, y)}}, 3, 0)
	breaks(t, []Seen{{Choice: a, H: entries(x, y)}}, 4, 0)
	breaks(t, []Seen{called(a), quiet(x, y), {Replies: both}}, 4, 1)
	breaks(t, []Seen{called(a, x), {Replies: bad3, H: entries(x)}, quiet()}, 3, 1)
	breaks(t, []Seen{called(a, x), quiet(), {Replies: bad3, H: entries(x)}}, 1, 1)
}

// 26.2

func TestOpen(t *testing.T) {
	a, b := calling(0, 1, 1, create("/a")), calling(0, 2, 1, create("/b"))
	again := calling(3, 1, 1, create("/other"))
	l := []Seen{called(b), called(a), called(again), called(b)}
	want := entries(entryOf(b), entryOf(a))
	if x := Open(l); !slices.Equal(x, want) || Replied(l) != 0 {
		t.Errorf("Open: %v, Replied: %d", x, Replied(l))
	}
	for _, e := range []api.Errno{api.ErrArg, api.ErrFull, api.ErrState} {
		l = append(l, Seen{Replies: replies(failed(a, e), failed(b, e))})
	}
	if x := Open(l); !slices.Equal(x, want) || Replied(l) != 0 {
		t.Errorf("behind refusals: Open: %v, Replied: %d", x, Replied(l))
	}
	// Whichever node replies, and whatever.
	l = append(l, Seen{Replies: replies(failed(calling(5, 2, 1, b.Op), api.ErrNone))})
	if x := Open(l); !slices.Equal(x, want[1:]) || Replied(l) != 1 {
		t.Errorf("behind b: Open: %v, Replied: %d", x, Replied(l))
	}
	l = append(l, Seen{Replies: replies(failed(a, api.OK), failed(a, api.OK), failed(b, api.OK), failed(b, api.ErrState))})
	if x := Open(l); len(x) != 0 || Replied(l) != 2 {
		t.Errorf("behind both: Open: %v, Replied: %d", x, Replied(l))
	}
	// A request that was not called counts nowhere; nor does a choice that is no call.
	c := calling(0, 9, 9, create("/c"))
	l = append(l, Seen{Choice: api.Choice{Kind: api.ChFlush, Client: 8, Req: 8}, Replies: replies(failed(c, api.OK))})
	if x := Open(l); len(x) != 0 || Replied(l) != 2 {
		t.Errorf("not called: Open: %v, Replied: %d", x, Replied(l))
	}
	// Replied and called, in whatever order, is both.
	l = append(l, called(c))
	if x := Open(l); len(x) != 0 || Replied(l) != 3 {
		t.Errorf("called behind: Open: %v, Replied: %d", x, Replied(l))
	}
}

// Requests that are not right are open all the same, and no trace is too long for these two.
func TestOpenAny(t *testing.T) {
	wrong := calling(-1, math.MinInt, -3, api.Op{Kind: 99, Path: strings.Repeat("x", 5000)})
	l := make([]Seen, 5000)
	l[4999] = Seen{Choice: wrong, Replies: make([]api.Reply, 5000), H: make([]api.Entry, 5000)}
	if x := Open(l); !slices.Equal(x, entries(entryOf(wrong))) || Replied(l) != 0 {
		t.Errorf("Open: %d, Replied: %d", len(x), Replied(l))
	}
}

func TestMemory(t *testing.T) {
	a, b := calling(0, 1, 1, create("/a")), calling(0, 2, 1, api.Op{Kind: api.OpList, Path: "/"})
	room := entries(entryOf(a), entryOf(b), api.Entry{View: 5})
	told := replies(failed(a, api.OK), replyOf(b, api.Result{Names: []string{"a"}}), api.Reply{Node: 7})
	l := []Seen{called(a), called(b, room[:1]...), {Replies: told[:2], H: room[:2]}, {Replies: told[1:2], H: room[:2]}}
	keeps(t, l...)
	keeps(t, l...)
	open := Open(l[:2])
	clear(open[:cap(open)])
	if x := Open(l[:2]); !slices.Equal(x, entries(entryOf(a), entryOf(b))) {
		t.Errorf("Open: %v", x)
	}
	keeps(t, l...)
	if room[2].View != 5 || told[2].Node != 7 || l[2].Replies[1].Result.Names[0] != "a" {
		t.Error("the trace was changed")
	}
}
