package trace

import (
	"slices"

	"cartulary/api"
	"cartulary/model"
	"cartulary/replog"
)

// The rules once more, each word by word and of the whole trace up to a step, however slow that is.

type plainRequest struct{ client, req int }

func requestOf(e api.Entry) plainRequest   { return plainRequest{e.Client, e.Req} }
func requestOfR(r api.Reply) plainRequest  { return plainRequest{r.Client, r.Req} }
func requestOfC(c api.Choice) plainRequest { return plainRequest{c.Client, c.Req} }

// plainFirst is the step of a request's first call; -1, if there is none.
func plainFirst(l []Seen, q plainRequest) int {
	return slices.IndexFunc(l, func(x Seen) bool { return x.Choice.Kind == api.ChCall && requestOfC(x.Choice) == q })
}

func plainRefusal(r api.Reply) bool {
	return slices.Contains([]api.Errno{1, 5, 7}, r.Result.E)
}

func plainSame(a, b api.Result) bool {
	return a.E == b.E && a.Data == b.Data && a.Kind == b.Kind && a.Links == b.Links && a.Size == b.Size && slices.Equal(a.Names, b.Names)
}

func plainPlace(h []api.Entry, q plainRequest) int {
	return slices.IndexFunc(h, func(e api.Entry) bool { return requestOf(e) == q })
}

// plain1 to plain5 tell whether the last step of l keeps the rule, if all ahead kept all and it keeps those ahead of it.
func plain1(s api.Shape, l []Seen) bool {
	var ahead []api.Entry
	if len(l) > 1 {
		ahead = l[len(l)-2].H
	}
	h := l[len(l)-1].H
	if len(h) < len(ahead) {
		return false
	}
	for i := range ahead {
		if h[i] != ahead[i] {
			return false
		}
	}
	for i, a := range h {
		if _, e := replog.Encode(a); e != api.OK {
			return false
		}
		for _, b := range h[:i] {
			if a.Client == b.Client && a.Req <= b.Req {
				return false
			}
		}
	}
	return true
}

func plain2(s api.Shape, l []Seen) bool {
	for _, r := range l[len(l)-1].Replies {
		called := slices.ContainsFunc(l, func(x Seen) bool {
			return x.Choice.Kind == api.ChCall && requestOfC(x.Choice) == requestOfR(r) && x.Choice.Node == r.Node
		})
		if !called || plainRefusal(r) && !plainSame(r.Result, api.Result{E: r.Result.E}) {
			return false
		}
	}
	return true
}

func plain3(s api.Shape, l []Seen) bool {
	x := l[len(l)-1]
	m, _ := model.New(s)
	var answers []api.Result
	for _, e := range x.H {
		answers = append(answers, m.Do(e.Op))
	}
	for _, r := range x.Replies {
		if plainRefusal(r) {
			continue
		}
		at := plainPlace(x.H, requestOfR(r))
		if at < 0 || !plainSame(r.Result, answers[at]) {
			return false
		}
	}
	return true
}

func plain4(s api.Shape, l []Seen) bool {
	for _, e := range l[len(l)-1].H {
		at := plainFirst(l, requestOf(e))
		if at < 0 || l[at].Choice.Op != e.Op {
			return false
		}
	}
	return true
}

func plain5(s api.Shape, l []Seen) bool {
	h := l[len(l)-1].H
	for place, e := range h {
		for _, x := range l[:plainFirst(l, requestOf(e))] {
			for _, r := range x.Replies {
				if !plainRefusal(r) && requestOfR(r) != requestOf(e) && plainPlace(h, requestOfR(r)) > place {
					return false
				}
			}
		}
	}
	return true
}

// plainCheck is what Check tells of a shape that is one and a trace that is not too long.
func plainCheck(s api.Shape, l []Seen) (int, int) {
	for i := range l {
		for k, keeps := range []func(api.Shape, []Seen) bool{plain1, plain2, plain3, plain4, plain5} {
			if !keeps(s, l[:i+1]) {
				return k + 1, i
			}
		}
	}
	return 0, 0
}

// plainOpen are the requests that were called, in order, split by whether they were replied.
func plainOpen(l []Seen) (open []api.Entry, replied int) {
	for i, x := range l {
		q := requestOfC(x.Choice)
		if x.Choice.Kind != api.ChCall || plainFirst(l, q) < i {
			continue
		}
		told := slices.ContainsFunc(l, func(y Seen) bool {
			return slices.ContainsFunc(y.Replies, func(r api.Reply) bool { return requestOfR(r) == q && !plainRefusal(r) })
		})
		if told {
			replied++
		} else {
			open = append(open, api.Entry{Client: q.client, Req: q.req, Op: x.Choice.Op})
		}
	}
	return open, replied
}
