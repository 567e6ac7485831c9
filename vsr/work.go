package vsr

import (
	"slices"

	"cartulary/api"
	"cartulary/fs"
	"cartulary/model"
	"cartulary/msg"
	"cartulary/replog"
)

// piece is an entry that is being applied, and what it answers.
type piece struct {
	entry  api.Entry
	result api.Result
}

// call does what a client calls: an entry that is none yet.
func (x *Node) call(e api.Entry) {
	r := requestOf(e)
	number, later := x.find(r)
	switch {
	case !x.leads():
		x.refuse(r, api.ErrState)
	case !isRight(e):
		x.refuse(r, api.ErrArg)
	case number > 0:
		x.callAgain(r, number)
	case later:
		// Its client has gone on, and waits for it no more.
	case !x.hasRoom(e):
		x.refuse(r, api.ErrFull)
	default:
		x.take(e)
	}
}

// find is the number of the entry that is a request (0, if there is none), and whether there is a later one of its client.
func (x *Node) find(r request) (int, bool) {
	later := false
	for i, e := range x.entries() {
		if requestOf(e) == r {
			return i + 1, false
		}
		later = later || e.Client == r.client && e.Req > r.number
	}
	return 0, later
}

// callAgain tells what a request that is in the log answered, or has it wait.
func (x *Node) callAgain(r request, number int) {
	if number > len(x.results) {
		x.calls[r] = struct{}{}
		return
	}
	x.reply(r, x.results[number-1])
}

func (x *Node) hasRoom(e api.Entry) bool {
	size, _ := msg.Size(append(x.entries(), e))
	return size <= MaxLog
}

// take appends an entry and sends it.
func (x *Node) take(e api.Entry) {
	r := requestOf(e)
	ahead := x.log.Len()
	if fault := x.add(e); fault != api.OK {
		x.refuse(r, fault)
		return
	}
	x.calls[r] = struct{}{}
	for _, to := range x.others() {
		x.prepareFor(to, ahead, 1)
	}
}

func (x *Node) refuse(r request, e api.Errno) {
	x.reply(r, api.Result{E: e})
}

func (x *Node) reply(r request, result api.Result) {
	result.Names = slices.Clone(result.Names)
	x.done.Replies = append(x.done.Replies, api.Reply{Node: x.id, Client: r.client, Req: r.number, Result: result})
}

// act does one act of what the store is busy with.
func (x *Node) act() {
	over, _ := x.store.Step()
	if !over || x.under == nil {
		return
	}
	p := *x.under
	x.under = nil
	x.results = append(x.results, p.result)
	r := requestOf(p.entry)
	if _, waits := x.calls[r]; waits {
		delete(x.calls, r)
		x.reply(r, p.result)
	}
}

// begin has the store be busy with the next entry, if it may be applied.
func (x *Node) begin() {
	number := x.store.Count() + 1
	if number > x.sure || number > x.flushed() {
		return
	}
	entry, _ := x.log.Get(number)
	// The device has what it was given by these layers alone: its blocks are a file system's, and the changes have room in its journal.
	result, changes, _ := fs.Do(x.shape, x.blocks(), entry.Op)
	x.store.Commit(changes)
	x.under = &piece{entry: entry, result: result}
}

// blocks are its file system's, as all entries that are applied have them.
func (x *Node) blocks() []string {
	l := make([]string, x.shape.Blocks)
	for i := range l {
		l[i], _ = x.store.Read(i)
	}
	return l
}

// replay is what the log's first entries answer: a crash takes the results, and the file system does nothing twice.
func (x *Node) replay(many int) []api.Result {
	m, _ := model.New(x.shape)
	l := []api.Result{}
	for i := range many {
		e, _ := x.log.Get(i + 1)
		l = append(l, m.Do(e.Op))
	}
	return l
}

func requestOf(e api.Entry) request {
	return request{client: e.Client, number: e.Req}
}

// isRight tells whether a call can be an entry.
func isRight(e api.Entry) bool {
	_, fault := replog.Encode(e)
	return fault == api.OK
}
