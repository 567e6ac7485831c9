package trace

import (
	"slices"

	"cartulary/api"
	"cartulary/model"
	"cartulary/replog"
)

// watch is what is known of the steps that were looked at. All of them kept the rules, so of a history only what is new must be asked.
type watch struct {
	model *model.Model
	// ahead is the history behind the step ahead.
	ahead []api.Entry
	// calls are the requests that were called, visits the nodes on which they were.
	calls  map[request]call
	visits map[visit]struct{}
	// answers is what each entry of the history answers, at the places of their requests.
	answers []api.Result
	places  map[request]int
	// last are the clients' last requests in the history.
	last map[int]int
	// told is how many entries there are up to the last one that was replied.
	told int
}

// call is a request's operation, and how many entries must stand ahead of its own: those that were replied ahead of its first call.
type call struct {
	op    api.Op
	least int
}

// visit is a request on a node.
type visit struct {
	node int
	request
}

func newWatch(m *model.Model) *watch {
	return &watch{
		model: m,
		calls: map[request]call{}, visits: map[visit]struct{}{},
		places: map[request]int{}, last: map[int]int{},
	}
}

// rules are the rules, in the order in which a step is held against them.
func (w *watch) rules() []rule {
	return []rule{
		{1, w.grows},
		{2, w.wasCalled},
		{3, w.isAnswer},
		{4, w.hasCalls},
		{5, w.isInTime},
	}
}

// hear takes a step's call.
func (w *watch) hear(c api.Choice) {
	if c.Kind != api.ChCall {
		return
	}
	q := request{c.Client, c.Req}
	w.visits[visit{c.Node, q}] = struct{}{}
	if _, known := w.calls[q]; !known {
		w.calls[q] = call{op: c.Op, least: w.told}
	}
}

// pass takes what a step told that kept the rules.
func (w *watch) pass(x Seen) {
	w.ahead = x.H
	for _, r := range x.Replies {
		if !isRefusal(r.Result) {
			w.told = max(w.told, w.places[request{r.Client, r.Req}]+1)
		}
	}
}

// grows is rule 1. What is new in the history is done to the model, for the rules behind.
func (w *watch) grows(x Seen) bool {
	n := len(w.ahead)
	if len(x.H) < n || !slices.Equal(x.H[:n], w.ahead) {
		return false
	}
	for _, e := range x.H[n:] {
		if _, wrong := replog.Encode(e); wrong != api.OK || e.Req <= w.last[e.Client] {
			return false
		}
		w.last[e.Client] = e.Req
		w.places[request{e.Client, e.Req}] = len(w.answers)
		w.answers = append(w.answers, w.model.Do(e.Op))
	}
	return true
}

// wasCalled is rule 2.
func (w *watch) wasCalled(x Seen) bool {
	for _, r := range x.Replies {
		if _, ok := w.visits[visit{r.Node, request{r.Client, r.Req}}]; !ok {
			return false
		}
		if isRefusal(r.Result) && !same(r.Result, api.Result{E: r.Result.E}) {
			return false
		}
	}
	return true
}

// isAnswer is rule 3.
func (w *watch) isAnswer(x Seen) bool {
	for _, r := range x.Replies {
		if isRefusal(r.Result) {
			continue
		}
		place, ok := w.places[request{r.Client, r.Req}]
		if !ok || !same(r.Result, w.answers[place]) {
			return false
		}
	}
	return true
}

// hasCalls is rule 4.
func (w *watch) hasCalls(x Seen) bool {
	for _, e := range x.H[len(w.ahead):] {
		if c, ok := w.calls[request{e.Client, e.Req}]; !ok || c.op != e.Op {
			return false
		}
	}
	return true
}

// isInTime is rule 5.
func (w *watch) isInTime(x Seen) bool {
	for _, e := range x.H[len(w.ahead):] {
		q := request{e.Client, e.Req}
		if w.places[q] < w.calls[q].least {
			return false
		}
	}
	return true
}

// same tells whether two results are: a list of no names may be nil or empty.
func same(a, b api.Result) bool {
	if !slices.Equal(a.Names, b.Names) {
		return false
	}
	return a.E == b.E && a.Data == b.Data && a.Kind == b.Kind && a.Links == b.Links && a.Size == b.Size
}
