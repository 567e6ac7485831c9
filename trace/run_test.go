package trace

import (
	"slices"
	"testing"

	"cartulary/api"
	"cartulary/model"
)

// source is a source of numbers, always the same ones.
type source uint32

func (x *source) next(n int) int {
	*x = *x*1664525 + 1013904223
	return int(*x>>8) % n
}

// player makes traces that keep the rules.
type player struct {
	r       source
	model   *model.Model
	calls   []api.Choice
	h       []api.Entry
	answers []api.Result
}

func (p *player) someOp() api.Op {
	paths := []string{"/a", "/b", "/d", "/d/a", "/d/b", "/", "no", "/d/e/f"}
	return api.Op{
		Kind: p.r.next(13), At: p.r.next(3) * 60, N: p.r.next(200) - 5,
		Path: paths[p.r.next(len(paths))], To: paths[p.r.next(len(paths))], Data: "some data"[:p.r.next(10)],
	}
}

// call is one of a new request, or of one that was called.
func (p *player) call() api.Choice {
	c := calling(p.r.next(3), p.r.next(4), 1+p.r.next(12), p.someOp())
	if len(p.calls) > 0 && p.r.next(3) == 0 {
		old := p.calls[p.r.next(len(p.calls))]
		c.Client, c.Req = old.Client, old.Req
	}
	p.calls = append(p.calls, c)
	return c
}

// commit has H take a request that was called, if it may.
func (p *player) commit() {
	c := p.calls[p.r.next(len(p.calls))]
	for _, e := range p.h {
		if e.Client == c.Client && e.Req >= c.Req {
			return
		}
	}
	first := p.calls[slices.IndexFunc(p.calls, func(x api.Choice) bool { return requestOfC(x) == requestOfC(c) })]
	e := entryOf(first)
	e.View = p.r.next(3)
	p.h = append(p.h, e)
	p.answers = append(p.answers, p.model.Do(e.Op))
}

// reply is a right one.
func (p *player) reply() api.Reply {
	c := p.calls[p.r.next(len(p.calls))]
	at := plainPlace(p.h, requestOfC(c))
	if at < 0 || p.r.next(4) == 0 {
		return failed(c, []api.Errno{api.ErrArg, api.ErrFull, api.ErrState}[p.r.next(3)])
	}
	return replyOf(c, p.answers[at])
}

func (p *player) step() Seen {
	x := Seen{Choice: api.Choice{Kind: p.r.next(11), Client: p.r.next(4), Req: p.r.next(9)}}
	if x.Choice.Kind == api.ChCall || p.r.next(2) == 0 {
		x.Choice = p.call()
	}
	for len(p.calls) > 0 && p.r.next(2) == 0 {
		p.commit()
	}
	for len(p.calls) > 0 && p.r.next(2) == 0 {
		x.Replies = append(x.Replies, p.reply())
	}
	x.H = slices.Clone(p.h)
	return x
}

func play(seed, steps int) []Seen {
	m, _ := model.New(aShape())
	p := &player{r: source(seed), model: m}
	var l []Seen
	for range steps {
		l = append(l, p.step())
	}
	return l
}

// spoilReply and spoilEntry have one thing of them be another one.
func spoilReply(r *source, x *api.Reply) {
	switch r.next(9) {
	case 0:
		x.Node = r.next(3)
	case 1:
		x.Client = r.next(4)
	case 2:
		x.Req = r.next(13)
	case 3:
		x.Result.E = api.Errno(r.next(9))
	case 4:
		x.Result.E = api.Errno(300 + r.next(12))
	case 5:
		x.Result.Data += "x"
	case 6:
		x.Result.Size++
	case 7:
		x.Result.Kind, x.Result.Links = r.next(3), r.next(3)
	case 8:
		x.Result.Names = []string{"a"}[:r.next(2)]
	}
}

func spoilEntry(r *source, x *api.Entry) {
	switch r.next(5) {
	case 0:
		x.View = r.next(5) - 1
	case 1:
		x.Client = r.next(6) - 1
	case 2:
		x.Req = r.next(13)
	case 3:
		x.Op.Kind = r.next(13)
	case 4:
		x.Op.Path = []string{"/a", "/b"}[r.next(2)]
	}
}

// spoilHistory changes an entry here, or here and in all steps behind, or leaves one out, or has two change places.
func spoilHistory(r *source, l []Seen, at int) {
	h := l[at].H
	if len(h) == 0 {
		return
	}
	k := r.next(len(h))
	switch r.next(4) {
	case 0:
		spoilEntry(r, &h[k])
	case 1:
		e := h[k]
		spoilEntry(r, &e)
		for i := range l {
			if k < len(l[i].H) {
				l[i].H[k] = e
			}
		}
	case 2:
		l[at].H = slices.Delete(h, k, k+1)
	case 3:
		other := r.next(len(h))
		for i := at; i < len(l); i++ {
			if g := l[i].H; max(k, other) < len(g) {
				g[k], g[other] = g[other], g[k]
			}
		}
	}
}

func spoil(r *source, l []Seen) {
	at := r.next(len(l))
	x := &l[at]
	switch r.next(5) {
	case 0:
		if len(x.Replies) > 0 {
			spoilReply(r, &x.Replies[r.next(len(x.Replies))])
		}
	case 1, 2:
		spoilHistory(r, l, at)
	case 3:
		x.Choice.Kind = r.next(3)
	case 4:
		// What was called later is called at once, or the other way round.
		other := r.next(len(l))
		l[at].Choice, l[other].Choice = l[other].Choice, l[at].Choice
	}
}

// What keeps the rules is told so, and so is each beginning of it (26.3).
func TestPlayed(t *testing.T) {
	for seed := range 300 {
		l := play(seed, 30)
		for n := range len(l) + 1 {
			if rule, at, e := Check(aShape(), l[:n]); rule != 0 || at != 0 || e != api.OK {
				t.Fatalf("seed %d, %d steps: %d, %d, %v", seed, n, rule, at, e)
			}
		}
		once(t, l)
	}
}

// 26.4: each request that is replied is in the last H once, and what is replied of it is always the same.
func once(t *testing.T, l []Seen) {
	t.Helper()
	h := l[len(l)-1].H
	told := map[plainRequest]api.Result{}
	for _, x := range l {
		for _, r := range x.Replies {
			if plainRefusal(r) {
				continue
			}
			q := requestOfR(r)
			if before, ok := told[q]; ok && !plainSame(before, r.Result) {
				t.Fatalf("%v was replied %v and %v", q, before, r.Result)
			}
			told[q] = r.Result
			n := 0
			for _, e := range h {
				if requestOf(e) == q {
					n++
				}
			}
			if n != 1 {
				t.Fatalf("%v is in H %d times", q, n)
			}
		}
	}
	if n := Replied(l); n != len(told) {
		t.Fatalf("Replied: %d, want %d", n, len(told))
	}
}

// What is spoilt is told as the plain rules tell it; beginnings that are whole are told so, longer ones tell the same (26.3).
func TestSpoilt(t *testing.T) {
	r := source(26)
	var count [6]int
	for seed := range 6000 {
		l := play(seed, 4+r.next(16))
		for range 1 + r.next(3) {
			spoil(&r, l)
		}
		rule, at := plainCheck(aShape(), l)
		count[rule]++
		if n, step, e := Check(aShape(), l); n != rule || step != at || e != api.OK {
			t.Fatalf("seed %d: %d, %d, %v; want %d, %d", seed, n, step, e, rule, at)
		}
		if rule == 0 {
			once(t, l)
		} else {
			breaks(t, l[:at+1], rule, at)
			keeps(t, l[:at]...)
		}
		open, replied := plainOpen(l)
		if x := Open(l); !slices.Equal(x, open) || Replied(l) != replied {
			t.Fatalf("seed %d: Open: %v, Replied: %d; want %v, %d", seed, x, Replied(l), open, replied)
		}
	}
	if slices.Min(count[:5]) < 100 || count[5] != 0 {
		t.Errorf("rules broken: %v", count)
	}
}

// Whatever a trace is made of, it is told something of it, and the same as by the plain rules.
func TestGarbage(t *testing.T) {
	r := source(261)
	for range 3000 {
		l := make([]Seen, r.next(5))
		for i := range l {
			l[i].Choice = calling(r.next(2), r.next(2), r.next(3), create("/a"))
			l[i].Choice.Kind = 1 + r.next(2)
			for range r.next(3) {
				l[i].Replies = append(l[i].Replies, api.Reply{Node: r.next(2), Client: r.next(2), Req: r.next(3), Result: api.Result{E: []api.Errno{0, 1, 5, 7, api.Exists}[r.next(5)]}})
			}
			for range r.next(3) {
				l[i].H = append(l[i].H, api.Entry{View: r.next(2), Client: r.next(2), Req: r.next(3), Op: create("/a")})
			}
		}
		rule, at := plainCheck(aShape(), l)
		breaks(t, l, rule, at)
		open, replied := plainOpen(l)
		if x := Open(l); !slices.Equal(x, open) || Replied(l) != replied {
			t.Fatalf("Open: %v, Replied: %d; want %v, %d", x, Replied(l), open, replied)
		}
	}
}
