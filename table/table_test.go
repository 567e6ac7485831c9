package table

import (
	"math"
	"slices"
	"strings"
	"testing"

	"cartulary/api"
)

// source is a source of numbers, always the same ones.
type source uint32

func (x *source) next(n int) int {
	*x = *x*1664525 + 1013904223
	return int(*x>>8) % n
}

const known = 256

// clients are right ones, requests too, at the edges and between.
var (
	clients     = []int{0, 1, 5, 255, 256, 1 << 32, api.MaxSeq - 1, api.MaxSeq}
	requests    = []int{1, 2, 3, 1 << 32, api.MaxSeq - 1, api.MaxSeq}
	notClients  = []int{math.MinInt, -api.MaxSeq, -2, -1, api.MaxSeq + 1, api.MaxSeq + 2, math.MaxInt}
	notRequests = []int{math.MinInt, -api.MaxSeq, -1, 0, api.MaxSeq + 1, api.MaxSeq + 2, math.MaxInt}
)

func sameResult(a, b api.Result) bool {
	return a.E == b.E && a.Data == b.Data && a.Kind == b.Kind && a.Links == b.Links && a.Size == b.Size && slices.Equal(a.Names, b.Names)
}

// whole is a result with each field filled.
func whole() api.Result {
	return api.Result{E: api.Exists, Data: "a\x00\xff", Kind: 2, Links: 3, Size: 4, Names: []string{"b", "", "a"}}
}

// asked holds what a request is; what is not Told has no result.
func asked(t *testing.T, x *Table, client, req, want int) {
	t.Helper()
	if n, r, e := x.Ask(client, req); n != want || r.Names != nil || !sameResult(r, api.Result{}) || e != api.OK {
		t.Fatalf("Ask(%d, %d): %d, %v, %v; want %d", client, req, n, r, e, want)
	}
}

func askedTold(t *testing.T, x *Table, client, req int, want api.Result) {
	t.Helper()
	if n, r, e := x.Ask(client, req); n != Told || !sameResult(r, want) || e != api.OK {
		t.Fatalf("Ask(%d, %d): %d, %v, %v; want %d, %v", client, req, n, r, e, Told, want)
	}
}

func notAsked(t *testing.T, x *Table, client, req int) {
	t.Helper()
	if n, r, e := x.Ask(client, req); n != 0 || r.Names != nil || !sameResult(r, api.Result{}) || e != api.ErrArg {
		t.Fatalf("Ask(%d, %d): %d, %v, %v", client, req, n, r, e)
	}
}

func begin(t *testing.T, x *Table, client, req int, want api.Errno) {
	t.Helper()
	if e := x.Begin(client, req); e != want {
		t.Fatalf("Begin(%d, %d): %v; want %v", client, req, e, want)
	}
}

func done(t *testing.T, x *Table, client, req int, r api.Result, want api.Errno) {
	t.Helper()
	if e := x.Done(client, req, r); e != want {
		t.Fatalf("Done(%d, %d): %v; want %v", client, req, e, want)
	}
}

func checkClients(t *testing.T, x *Table, want ...int) {
	t.Helper()
	if l := x.Clients(); !slices.Equal(l, want) {
		t.Fatalf("Clients: %v; want %v", l, want)
	}
}

func checkLast(t *testing.T, x *Table, client, want int) {
	t.Helper()
	if n, ok := x.Last(client); n != want || ok != (want > 0) {
		t.Fatalf("Last(%d): %d, %v; want %d", client, n, ok, want)
	}
}

// full is a table that knows the clients 0, 3, 6 and so on, of which each third one's request 10 is done.
func full(t *testing.T) *Table {
	t.Helper()
	x := New()
	for i := range known {
		begin(t, x, 3*i, 10, api.OK)
		if i%3 == 0 {
			done(t, x, 3*i, 10, whole(), api.OK)
		}
	}
	return x
}

func TestExample(t *testing.T) {
	x := New()
	begin(t, x, 5, 2, api.OK)
	asked(t, x, 5, 2, Running)
	done(t, x, 5, 2, whole(), api.OK)
	askedTold(t, x, 5, 2, whole())
	asked(t, x, 5, 1, Old)
	asked(t, x, 5, 3, Fresh)
}

func TestConstants(t *testing.T) {
	if Fresh != 1 || Running != 2 || Told != 3 || Old != 4 {
		t.Error(Fresh, Running, Told, Old)
	}
}

// 22.1

// checkNobody holds what a table tells that knows nobody.
func checkNobody(t *testing.T, x *Table) {
	t.Helper()
	checkClients(t, x)
	for _, c := range clients {
		checkLast(t, x, c, 0)
		for _, q := range requests {
			asked(t, x, c, q, Fresh)
			done(t, x, c, q, whole(), api.ErrNone)
		}
	}
	checkWrong(t, x)
}

// checkWrong holds that clients and requests out of their ranges come ahead of all else.
func checkWrong(t *testing.T, x *Table) {
	t.Helper()
	wrong := func(c, q int) {
		t.Helper()
		notAsked(t, x, c, q)
		begin(t, x, c, q, api.ErrArg)
		done(t, x, c, q, api.Result{}, api.ErrArg)
		done(t, x, c, q, whole(), api.ErrArg)
	}
	for _, c := range notClients {
		checkLast(t, x, c, 0)
		for _, q := range slices.Concat(requests, notRequests, []int{10}) {
			wrong(c, q)
		}
	}
	for _, q := range notRequests {
		for _, c := range slices.Concat(clients, []int{3}) {
			wrong(c, q)
		}
	}
}

func TestNew(t *testing.T) {
	x := New()
	if x == nil {
		t.Fatal("New is nil")
	}
	checkNobody(t, x)
	// Two tables know nothing of one another.
	y := New()
	begin(t, y, 1, 1, api.OK)
	checkNobody(t, x)
	checkClients(t, y, 1)
}

// One that New did not make knows nobody, too, and nothing of it panics.
func TestNotMade(t *testing.T) {
	x := &Table{}
	checkNobody(t, x)
	begin(t, x, 1, 1, api.OK)
	done(t, x, 1, 1, whole(), api.OK)
	askedTold(t, x, 1, 1, whole())
}

// A client's requests one after another, with all that is less and greater than the last one.
func TestStates(t *testing.T) {
	for _, c := range clients {
		x := New()
		for i, q := range requests {
			begin(t, x, c, q, api.OK)
			for told := range 2 {
				for j, other := range requests {
					switch {
					case j < i:
						asked(t, x, c, other, Old)
						begin(t, x, c, other, api.ErrState)
						done(t, x, c, other, whole(), api.ErrNone)
					case j > i:
						asked(t, x, c, other, Fresh)
						done(t, x, c, other, whole(), api.ErrNone)
					}
				}
				begin(t, x, c, q, api.ErrState)
				checkLast(t, x, c, q)
				checkClients(t, x, c)
				if told == 0 {
					asked(t, x, c, q, Running)
					done(t, x, c, q, api.Result{Size: i + 1}, api.OK)
				}
				askedTold(t, x, c, q, api.Result{Size: i + 1})
				done(t, x, c, q, whole(), api.ErrState)
				askedTold(t, x, c, q, api.Result{Size: i + 1})
			}
		}
		checkWrong(t, x)
	}
}

// A request may begin while the one ahead is not done: that one is never done.
func TestBeginAhead(t *testing.T) {
	x := New()
	begin(t, x, 7, 1, api.OK)
	begin(t, x, 7, 4, api.OK)
	asked(t, x, 7, 1, Old)
	done(t, x, 7, 1, whole(), api.ErrNone)
	asked(t, x, 7, 4, Running)
	// Requests that were left out are old ones.
	asked(t, x, 7, 3, Old)
	begin(t, x, 7, 3, api.ErrState)
	done(t, x, 7, 4, whole(), api.OK)
	// One that is done is told of no longer when the next one begins.
	begin(t, x, 7, 5, api.OK)
	asked(t, x, 7, 5, Running)
	asked(t, x, 7, 4, Old)
	done(t, x, 7, 5, api.Result{}, api.OK)
	askedTold(t, x, 7, 5, api.Result{})
}

// What one client does is not to be seen of another one.
func TestClientsApart(t *testing.T) {
	x := New()
	for i, c := range clients {
		begin(t, x, c, 5+i, api.OK)
	}
	for i, c := range clients {
		if i%2 == 0 {
			done(t, x, c, 5+i, api.Result{Size: i}, api.OK)
		}
	}
	for i, c := range clients {
		checkLast(t, x, c, 5+i)
		asked(t, x, c, 4+i, Old)
		asked(t, x, c, 6+i, Fresh)
		if i%2 == 0 {
			askedTold(t, x, c, 5+i, api.Result{Size: i})
		} else {
			asked(t, x, c, 5+i, Running)
		}
	}
	checkClients(t, x, clients...)
}

func TestFull(t *testing.T) {
	x := full(t)
	want := x.Clients()
	if len(want) != known {
		t.Fatalf("%d clients", len(want))
	}
	for _, c := range []int{1, 2, 3 * known, api.MaxSeq} {
		asked(t, x, c, 1, Fresh)
		begin(t, x, c, 1, api.ErrFull)
		begin(t, x, c, api.MaxSeq, api.ErrFull)
		done(t, x, c, 1, whole(), api.ErrNone)
		checkLast(t, x, c, 0)
	}
	checkWrong(t, x)
	checkClients(t, x, want...)
	// Those that are known go on.
	for i, c := range want {
		begin(t, x, c, 9, api.ErrState)
		begin(t, x, c, 10, api.ErrState)
		if i%3 == 0 {
			askedTold(t, x, c, 10, whole())
		} else {
			asked(t, x, c, 10, Running)
		}
		begin(t, x, c, 11, api.OK)
		checkLast(t, x, c, 11)
	}
	begin(t, x, 1, 1, api.ErrFull)
	checkClients(t, x, want...)
}

// The last client that has room is the 256th.
func TestRoom(t *testing.T) {
	x := New()
	for i := range known {
		begin(t, x, api.MaxSeq-i, 1, api.OK)
		begin(t, x, api.MaxSeq-i, 2, api.OK)
		if n := len(x.Clients()); n != i+1 {
			t.Fatalf("%d clients behind %d", n, i+1)
		}
	}
	begin(t, x, 0, 1, api.ErrFull)
}

// All that a result has is kept, whatever it is.
func TestResults(t *testing.T) {
	x := New()
	many := make([]string, 1000)
	for i := range many {
		many[i] = strings.Repeat("n", i%30)
	}
	results := []api.Result{
		{}, whole(), {E: -5}, {E: api.NoEntry}, {Data: strings.Repeat("x", 5000)}, {Kind: math.MinInt, Links: math.MaxInt, Size: -1},
		{Names: []string{""}}, {Names: []string{}}, {Names: many}, {E: api.OK, Data: "\xff", Names: []string{"z", "a", "z"}},
	}
	for i, r := range results {
		begin(t, x, 3, i+1, api.OK)
		done(t, x, 3, i+1, r, api.OK)
		askedTold(t, x, 3, i+1, r)
	}
}

// R3: what is handed to Done is neither changed nor kept, and no two answers share memory.
func TestNames(t *testing.T) {
	x := New()
	room := []string{"a", "b", "c", "d"}
	begin(t, x, 1, 1, api.OK)
	begin(t, x, 2, 1, api.OK)
	done(t, x, 1, 1, api.Result{Names: room[:2]}, api.OK)
	done(t, x, 2, 1, api.Result{Names: room[:0]}, api.OK)
	want := api.Result{Names: []string{"a", "b"}}
	for range 2 {
		_, r, _ := x.Ask(1, 1)
		spoil(r.Names)
		_, r, _ = x.Ask(2, 1)
		spoil(r.Names)
		askedTold(t, x, 1, 1, want)
		askedTold(t, x, 2, 1, api.Result{})
	}
	if !slices.Equal(room, []string{"a", "b", "c", "d"}) {
		t.Errorf("what was handed in is %v", room)
	}
	spoil(room)
	askedTold(t, x, 1, 1, want)
	_, a, _ := x.Ask(1, 1)
	_, b, _ := x.Ask(1, 1)
	spoil(a.Names)
	if !sameResult(b, want) {
		t.Errorf("a change of one answer is seen in another one: %v", b)
	}
}

// spoil writes over a list and the room behind it.
func spoil(l []string) {
	l = l[:cap(l)]
	for i := range l {
		l[i] = "spoilt"
	}
}

// 22.2

func TestClients(t *testing.T) {
	x := New()
	r := source(22)
	want := []int{}
	for range 200 {
		c := r.next(1000) * r.next(1000)
		begin(t, x, c, 1+len(want), api.OK)
		if !slices.Contains(want, c) {
			want = append(want, c)
		}
		slices.Sort(want)
		checkClients(t, x, want...)
		l := x.Clients()
		l = l[:cap(l)]
		for i := range l {
			l[i] = -1
		}
		checkClients(t, x, want...)
	}
	if len(want) < 100 {
		t.Errorf("only %d clients", len(want))
	}
}

func TestLast(t *testing.T) {
	x := New()
	for _, q := range requests {
		for _, c := range clients {
			begin(t, x, c, q, api.OK)
			checkLast(t, x, c, q)
			begin(t, x, c, q, api.ErrState)
			done(t, x, c, q, whole(), api.OK)
			checkLast(t, x, c, q)
		}
	}
	for _, c := range notClients {
		checkLast(t, x, c, 0)
	}
	checkLast(t, x, 2, 0)
}

func TestNil(t *testing.T) {
	var x *Table
	checkNobody(t, x)
	for _, c := range clients {
		for _, q := range requests {
			begin(t, x, c, q, api.ErrFull)
		}
	}
	checkNobody(t, x)
}

// 22.3

// row is what a plain list knows of a client's request: each that ever began is there.
type row struct {
	client, req int
	done        bool
	result      api.Result
}

// last is the place of a client's last row; -1, if it has none.
func last(rows []row, client int) int {
	at := -1
	for i, x := range rows {
		if x.client == client && (at < 0 || x.req > rows[at].req) {
			at = i
		}
	}
	return at
}

func beginning(rows []row, client, req int) api.Errno {
	at := last(rows, client)
	seen := []int{}
	for _, x := range rows {
		if !slices.Contains(seen, x.client) {
			seen = append(seen, x.client)
		}
	}
	switch {
	case at >= 0 && req <= rows[at].req:
		return api.ErrState
	case at < 0 && len(seen) == known:
		return api.ErrFull
	}
	return api.OK
}

func ending(rows []row, client, req int) api.Errno {
	at := last(rows, client)
	switch {
	case at < 0 || rows[at].req != req:
		return api.ErrNone
	case rows[at].done:
		return api.ErrState
	}
	return api.OK
}

// checkRows holds a table against all that ever began.
func checkRows(t *testing.T, x *Table, rows []row, client int) {
	t.Helper()
	at := last(rows, client)
	if at < 0 {
		checkLast(t, x, client, 0)
		return
	}
	l := rows[at]
	checkLast(t, x, client, l.req)
	asked(t, x, client, l.req+1, Fresh)
	for q := 1; q < l.req; q++ {
		asked(t, x, client, q, Old)
	}
	if l.done {
		askedTold(t, x, client, l.req, l.result)
	} else {
		asked(t, x, client, l.req, Running)
	}
}

func TestRun(t *testing.T) {
	r := source(223)
	for range 60 {
		x := New()
		rows := []row{}
		for step := range 150 {
			c, q := r.next(6), 1+r.next(12)
			if at := last(rows, c); at >= 0 && r.next(3) > 0 {
				q = rows[at].req + r.next(2)
			}
			result := api.Result{Size: step, Names: []string{strings.Repeat("n", step%5)}}
			if r.next(2) == 0 {
				want := beginning(rows, c, q)
				begin(t, x, c, q, want)
				if want == api.OK {
					rows = append(rows, row{client: c, req: q})
				}
			} else {
				want := ending(rows, c, q)
				done(t, x, c, q, result, want)
				if want == api.OK {
					at := last(rows, c)
					rows[at].done, rows[at].result = true, result
				}
			}
			checkRows(t, x, rows, r.next(6))
			checkRows(t, x, rows, c)
		}
	}
}

// Whatever is called in whatever order, each request begins once at most, in rising order of a client's, and is done once at most, and what is told of it stays.
func TestOnce(t *testing.T) {
	type key struct{ client, req int }
	r := source(224)
	x := New()
	begun, ended := map[key]int{}, map[key]int{}
	highest := map[int]int{}
	results := map[key]int{}
	for step := range 30000 {
		k := key{r.next(300), 1 + r.next(1+step/1000)}
		switch r.next(3) {
		case 0:
			if x.Begin(k.client, k.req) == api.OK {
				if begun[k]++; begun[k] > 1 || k.req <= highest[k.client] {
					t.Fatalf("%v began behind %d", k, highest[k.client])
				}
				highest[k.client] = k.req
			}
		case 1:
			if x.Done(k.client, k.req, api.Result{Size: step}) == api.OK {
				if ended[k]++; ended[k] > 1 || begun[k] != 1 || highest[k.client] != k.req {
					t.Fatalf("%v is done", k)
				}
				results[k] = step
			}
		}
		state, got, e := x.Ask(k.client, k.req)
		if told := ended[k] == 1 && highest[k.client] == k.req; e != api.OK || told != (state == Told) || told && got.Size != results[k] {
			t.Fatalf("Ask of %v: %d, %v, %v", k, state, got, e)
		}
	}
	if len(x.Clients()) != known || len(begun) < 1000 || len(ended) < 500 {
		t.Errorf("%d clients, %d begun, %d done", len(x.Clients()), len(begun), len(ended))
	}
}
