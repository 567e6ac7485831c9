package replog

import (
	"math"
	"slices"
	"testing"

	"cartulary/api"
)

// views are entries of those Views, each of another request.
func views(l ...int) []api.Entry {
	out := []api.Entry{}
	for i, v := range l {
		out = append(out, create(v, 5, i+1))
	}
	return out
}

// same are so many entries of one View.
func same(n, view int) []api.Entry {
	out := make([]api.Entry, n)
	for i := range out {
		out[i] = create(view, 7, i+1)
	}
	return out
}

// logOf is a log of entries, one appended behind the other.
func logOf(t *testing.T, l []api.Entry) *Log {
	t.Helper()
	x := New()
	for i, e := range l {
		if n, f := x.Append(e); n != i+1 || f != api.OK {
			t.Fatalf("Append of entry %d: %d, %v", i+1, n, f)
		}
	}
	return x
}

// check holds all that a log tells against its entries.
func check(t *testing.T, l *Log, want []api.Entry) {
	t.Helper()
	if l.Len() != len(want) {
		t.Fatalf("Len: %d; want %d", l.Len(), len(want))
	}
	last := 0
	if len(want) > 0 {
		last = want[len(want)-1].View
	}
	if l.View() != last {
		t.Fatalf("View: %d; want %d", l.View(), last)
	}
	if got := l.From(1, math.MaxInt); !slices.Equal(got, want) {
		t.Fatalf("From(1, all) are %d others", len(got))
	}
	for i, w := range want {
		if e, f := l.Get(i + 1); e != w || f != api.OK {
			t.Fatalf("Get(%d): %v, %v; want %v", i+1, e, f, w)
		}
	}
	for _, n := range []int{math.MinInt, -1, 0, len(want) + 1, MaxLog + 1, math.MaxInt} {
		if e, f := l.Get(n); e != (api.Entry{}) || f != api.ErrNone {
			t.Fatalf("Get(%d): %v, %v", n, e, f)
		}
	}
}

func notAppended(t *testing.T, l *Log, e api.Entry, want api.Errno) {
	t.Helper()
	if n, f := l.Append(e); n != 0 || f != want {
		t.Fatalf("Append: %d, %v; want %v", n, f, want)
	}
}

func replaced(t *testing.T, l *Log, keep int, with []api.Entry, want api.Errno) {
	t.Helper()
	if f := l.Replace(keep, with); f != want {
		t.Fatalf("Replace(%d, %d entries): %v; want %v", keep, len(with), f, want)
	}
}

// 20.2

func TestNew(t *testing.T) {
	if MaxLog != 4096 {
		t.Error(MaxLog)
	}
	l := New()
	if l == nil {
		t.Fatal("New is nil")
	}
	check(t, l, nil)
	check(t, &Log{}, nil)
	m := New()
	l.Append(create(1, 2, 3))
	check(t, m, nil)
}

func TestAppend(t *testing.T) {
	l := New()
	want := []api.Entry{}
	// Views may stay and rise, from 0 on; the same entry may come again.
	for _, v := range []int{0, 0, 1, 1, 1, 5, 300, 300, api.MaxSeq - 1, api.MaxSeq, api.MaxSeq} {
		e := create(v, 1, 1)
		want = append(want, e)
		if n, f := l.Append(e); n != len(want) || f != api.OK {
			t.Fatalf("Append of View %d: %d, %v", v, n, f)
		}
		check(t, l, want)
	}
	for _, e := range rightEntries() {
		if n, f := New().Append(e); n != 1 || f != api.OK {
			t.Errorf("Append: %d, %v", n, f)
		}
	}
}

func TestAppendWrong(t *testing.T) {
	l := logOf(t, views(0, 3, 3))
	for _, e := range wrongEntries() {
		notAppended(t, New(), e, api.ErrForm)
		notAppended(t, l, e, api.ErrForm)
	}
	for _, v := range []int{0, 1, 2} {
		notAppended(t, l, create(v, 9, 9), api.ErrState)
		// An entry that is not right is told ahead of its View.
		notAppended(t, l, create(v, 9, 0), api.ErrForm)
	}
	check(t, l, views(0, 3, 3))
}

func TestAppendFull(t *testing.T) {
	all := same(MaxLog, 2)
	l := logOf(t, all)
	notAppended(t, l, create(2, 1, 1), api.ErrFull)
	notAppended(t, l, create(3, 1, 1), api.ErrFull)
	// A View that falls comes ahead of what is full, and an entry that is not right ahead of both.
	notAppended(t, l, create(1, 1, 1), api.ErrState)
	notAppended(t, l, create(1, 1, 0), api.ErrForm)
	notAppended(t, l, create(2, 1, 0), api.ErrForm)
	check(t, l, all)
	replaced(t, l, MaxLog-1, nil, api.OK)
	if n, f := l.Append(create(3, 1, 1)); n != MaxLog || f != api.OK {
		t.Errorf("Append: %d, %v", n, f)
	}
}

func TestFrom(t *testing.T) {
	all := views(0, 1, 1, 4, 9)
	l := logOf(t, all)
	for _, n := range []int{math.MinInt, math.MinInt + 1, -5, -1, 0, 1, 2, 3, 4, 5, 6, 7, 100, math.MaxInt - 1, math.MaxInt} {
		for _, most := range []int{math.MinInt, -1, 0, 1, 2, 3, 4, 5, 6, 100, math.MaxInt - 1, math.MaxInt} {
			want := []api.Entry{}
			for i, e := range all {
				if i+1 >= n && len(want) < most {
					want = append(want, e)
				}
			}
			if got := l.From(n, most); !slices.Equal(got, want) {
				t.Errorf("From(%d, %d): %v; want %v", n, most, got, want)
			}
			if got := New().From(n, most); len(got) != 0 {
				t.Errorf("From(%d, %d) of none: %v", n, most, got)
			}
		}
	}
	check(t, l, all)
}

// spoil changes a list, with the room behind it.
func spoil(l []api.Entry) {
	l = l[:cap(l)]
	for i := range l {
		l[i] = create(99, 99, 99)
	}
}

// What From answers is new memory, with the room behind it.
func TestFromIsNew(t *testing.T) {
	all := views(0, 1, 1, 4, 9, 9, 9)
	l := logOf(t, all)
	for n := range 9 {
		for most := range 9 {
			other := l.From(n, most)
			want := slices.Clone(other)
			spoil(l.From(n, most))
			if !slices.Equal(other, want) {
				t.Fatalf("From(%d, %d): two answers share memory", n, most)
			}
		}
	}
	spoil(l.From(1, 3))
	check(t, l, all)
	// Nor does a later entry come to stand in an answer's room.
	got := l.From(1, 7)
	l.Append(create(9, 1, 1))
	for _, e := range got[len(got):cap(got)] {
		if e == create(9, 1, 1) {
			t.Error("an entry stands in an answer's room")
		}
	}
	replaced(t, l, 2, views(1, 2), api.OK)
	if !slices.Equal(got, all) {
		t.Error("an answer was changed by Replace")
	}
}

// 20.3

func TestReplace(t *testing.T) {
	base := views(0, 2, 2, 5)
	for keep := range 5 {
		for _, with := range [][]api.Entry{nil, {}, views(5), views(5, 5, 7), same(3, api.MaxSeq), same(1, 6)} {
			l := logOf(t, base)
			want := slices.Concat(base[:keep], with)
			replaced(t, l, keep, with, api.OK)
			check(t, l, want)
			// It goes on from there.
			e := create(api.MaxSeq, 8, 8)
			if n, f := l.Append(e); n != len(want)+1 || f != api.OK {
				t.Fatalf("Append: %d, %v", n, f)
			}
			check(t, l, append(want, e))
		}
	}
	for _, e := range rightEntries() {
		l := New()
		replaced(t, l, 0, []api.Entry{e}, api.OK)
		check(t, l, []api.Entry{e})
	}
}

// Views are held against those that are kept, not against those that are cut off.
func TestReplaceViews(t *testing.T) {
	base := views(1, 3, 3, 8)
	for keep, least := range []int{0, 1, 3, 3, 8} {
		for v := range 10 {
			l := logOf(t, base)
			if v >= least {
				replaced(t, l, keep, views(v), api.OK)
				check(t, l, slices.Concat(base[:keep], views(v)))
				continue
			}
			replaced(t, l, keep, views(v), api.ErrState)
			replaced(t, l, keep, views(v, 9), api.ErrState)
			check(t, l, base)
		}
		l := logOf(t, base)
		replaced(t, l, keep, views(9, 8), api.ErrState)
		replaced(t, l, keep, views(8, 9, 10, 9), api.ErrState)
		replaced(t, l, keep, views(10, 11, 0, 12), api.ErrState)
		check(t, l, base)
	}
}

func TestReplaceWrong(t *testing.T) {
	base := views(1, 3, 3)
	l := logOf(t, base)
	tooMany := same(MaxLog+1, 5)
	for _, keep := range []int{math.MinInt, -1, 4, 5, MaxLog, math.MaxInt} {
		for _, with := range [][]api.Entry{nil, views(5), views(0), {{}}, tooMany} {
			replaced(t, l, keep, with, api.ErrArg)
		}
	}
	for _, e := range wrongEntries() {
		// One that is not right, wherever it stands, comes ahead of Views that fall and of too many.
		for _, with := range [][]api.Entry{{e}, {create(4, 1, 1), e}, {e, create(4, 1, 1)}, {create(4, 1, 1), create(0, 1, 1), e}} {
			for keep := range 4 {
				replaced(t, l, keep, with, api.ErrForm)
			}
		}
	}
	wrong := slices.Concat(tooMany, []api.Entry{{}})
	replaced(t, l, 0, wrong, api.ErrForm)
	replaced(t, l, 1, slices.Concat(tooMany, views(4)), api.ErrState)
	replaced(t, l, 2, slices.Concat(views(0), tooMany), api.ErrState)
	replaced(t, l, 0, tooMany, api.ErrFull)
	replaced(t, l, 3, tooMany, api.ErrFull)
	check(t, l, base)
}

func TestReplaceFull(t *testing.T) {
	base := views(1, 3, 3)
	for keep := range 4 {
		l := logOf(t, base)
		with := same(MaxLog-keep+1, 5)
		replaced(t, l, keep, with, api.ErrFull)
		check(t, l, base)
		replaced(t, l, keep, with[:MaxLog-keep], api.OK)
		check(t, l, slices.Concat(base[:keep], with[:MaxLog-keep]))
		replaced(t, l, MaxLog, nil, api.OK)
		replaced(t, l, MaxLog, with[:1], api.ErrFull)
		replaced(t, l, MaxLog-1, with[:1], api.OK)
		notAppended(t, l, create(6, 1, 1), api.ErrFull)
	}
}

// What is handed to Replace is neither changed nor kept, nor is the room behind it.
func TestReplaceKeepsNothing(t *testing.T) {
	for keep := range 3 {
		l := logOf(t, views(0, 2))
		room := same(8, 5)
		before := slices.Clone(room)
		replaced(t, l, keep, room[:3], api.OK)
		l.Append(create(6, 1, 1))
		l.Append(create(7, 1, 1))
		if !slices.Equal(room, before) {
			t.Fatal("what was handed in was changed")
		}
		want := l.From(1, MaxLog)
		spoil(room)
		check(t, l, want)
	}
	// A log's own entries may be handed in.
	l := logOf(t, views(0, 2, 3, 4))
	own := l.From(2, 2)
	replaced(t, l, 1, own, api.OK)
	check(t, l, views(0, 2, 3))
	replaced(t, l, 3, own[1:], api.OK)
	check(t, l, append(views(0, 2, 3), own[1]))
}

// begins asks of two logs of these entries, and that neither is changed.
func begins(t *testing.T, a, b []api.Entry) bool {
	t.Helper()
	l, m := logOf(t, a), logOf(t, b)
	got := l.Begins(m)
	check(t, l, a)
	check(t, m, b)
	return got
}

func TestBegins(t *testing.T) {
	base := views(0, 2, 2, 5)
	for n := range 5 {
		if !begins(t, base, base[:n]) {
			t.Errorf("it does not begin with its first %d", n)
		}
		if got := begins(t, base[:n], base); got != (n == 4) {
			t.Errorf("its first %d begin with it: %v", n, got)
		}
	}
	changes := []func(e *api.Entry){
		func(e *api.Entry) { e.Client++ }, func(e *api.Entry) { e.Req++ }, func(e *api.Entry) { e.Op.Kind++ }, func(e *api.Entry) { e.Op.At++ }, func(e *api.Entry) { e.Op.N++ },
		func(e *api.Entry) { e.Op.Path += "a" }, func(e *api.Entry) { e.Op.To = "/b" }, func(e *api.Entry) { e.Op.Data = "x" },
	}
	for i := range base {
		for k, change := range changes {
			other := slices.Clone(base)
			change(&other[i])
			for n := range 5 {
				if got := begins(t, base, other[:n]); got != (n <= i) {
					t.Errorf("entry %d with change %d, of %d: %v", i+1, k, n, got)
				}
			}
		}
	}
	if begins(t, views(0, 2), views(0, 1)) || begins(t, views(0, 1), views(0, 2)) {
		t.Error("a View is another one")
	}
	l := logOf(t, base)
	if !l.Begins(l) || !New().Begins(New()) || !l.Begins(New()) || New().Begins(l) {
		t.Error("of a log and none")
	}
}

func TestNil(t *testing.T) {
	var l *Log
	check(t, l, nil)
	for _, n := range []int{math.MinInt, 0, 1, math.MaxInt} {
		if got := l.From(n, 5); len(got) != 0 {
			t.Errorf("From(%d): %v", n, got)
		}
	}
	for _, e := range rightEntries() {
		notAppended(t, l, e, api.ErrFull)
		replaced(t, l, 0, []api.Entry{e}, api.ErrState)
		replaced(t, l, 1, []api.Entry{e}, api.ErrArg)
	}
	for _, e := range wrongEntries() {
		notAppended(t, l, e, api.ErrForm)
		replaced(t, l, 0, []api.Entry{e}, api.ErrForm)
		replaced(t, l, 0, []api.Entry{create(1, 1, 1), e}, api.ErrForm)
		replaced(t, l, -1, []api.Entry{e}, api.ErrArg)
	}
	replaced(t, l, 0, nil, api.OK)
	replaced(t, l, 0, []api.Entry{}, api.OK)
	replaced(t, l, 0, views(2, 1), api.ErrState)
	replaced(t, l, 0, same(MaxLog, 1), api.ErrState)
	replaced(t, l, 0, same(MaxLog+1, 1), api.ErrState)
	for _, keep := range []int{math.MinInt, -1, 1, math.MaxInt} {
		replaced(t, l, keep, nil, api.ErrArg)
	}
	some := logOf(t, views(1))
	if !l.Begins(nil) || !l.Begins(New()) || l.Begins(some) || !some.Begins(nil) || !New().Begins(nil) {
		t.Error("Begins of a nil log")
	}
}

// 20.4

// runStep does one call to a log and to a list of its entries.
func runStep(t *testing.T, l *Log, list []api.Entry, r *source) []api.Entry {
	t.Helper()
	some := func(n int) []api.Entry {
		out := []api.Entry{}
		v := r.next(6)
		for range n {
			v += r.next(2)
			out = append(out, create(v, r.next(3), r.next(4)+r.next(2)))
		}
		return out
	}
	with := some(1 + r.next(3)*r.next(2))
	keep := r.next(len(list)+3) - 1
	want := api.OK
	if r.next(2) == 0 {
		keep, with = len(list), with[:1]
	}
	whole := slices.Concat(list[:min(max(keep, 0), len(list))], with)
	switch {
	case keep < 0 || keep > len(list):
		want = api.ErrArg
	case slices.ContainsFunc(with, func(e api.Entry) bool { return e.Req == 0 }):
		want = api.ErrForm
	case !slices.IsSortedFunc(whole, func(a, b api.Entry) int { return a.View - b.View }):
		want = api.ErrState
	}
	if keep == len(list) && len(with) == 1 && r.next(2) == 0 {
		n, f := l.Append(with[0])
		if f != want || f == api.OK && n != len(whole) {
			t.Fatalf("Append: %d, %v; want %d, %v", n, f, len(whole), want)
		}
	} else {
		replaced(t, l, keep, with, want)
	}
	if want != api.OK {
		return list
	}
	return whole
}

// sameBeginning is what Begins must tell, said plainly.
func sameBeginning(a, b []api.Entry) bool {
	for i := range b {
		if i >= len(a) || a[i] != b[i] {
			return false
		}
	}
	return true
}

func TestRun(t *testing.T) {
	r := source(20)
	for range 200 {
		l, m := New(), New()
		a, b := []api.Entry{}, []api.Entry{}
		for range 60 {
			a = runStep(t, l, a, &r)
			b = runStep(t, m, b, &r)
			if r.next(10) == 0 {
				b = slices.Clone(a[:r.next(len(a)+1)])
				replaced(t, m, 0, b, api.OK)
			}
			check(t, l, a)
			check(t, m, b)
			if l.Begins(m) != sameBeginning(a, b) || m.Begins(l) != sameBeginning(b, a) {
				t.Fatalf("Begins of %v and %v", a, b)
			}
			if l.Begins(m) && m.Begins(l) && !slices.Equal(a, b) {
				t.Fatal("two that begin with one another are not the same")
			}
		}
	}
}
