package bag

import (
	"math"
	"slices"
	"strconv"
	"strings"
	"testing"

	"cartulary/api"
)

func made(t *testing.T, nodes int) *Bag {
	t.Helper()
	b, e := New(nodes)
	if b == nil || e != api.OK {
		t.Fatalf("New(%d): %v", nodes, e)
	}
	return b
}

func mustPut(t *testing.T, b *Bag, messages ...Message) {
	t.Helper()
	for _, m := range messages {
		if e := b.Put(m); e != api.OK {
			t.Fatalf("Put(%.40v): %v", m, e)
		}
	}
}

// check holds a bag against its messages, as often as each is there, in the list's order.
func check(t *testing.T, b *Bag, want ...Message) {
	t.Helper()
	if got, list := b.List(), slices.Compact(slices.Clone(want)); !slices.Equal(got, list) {
		t.Errorf("List: %.200v, want %.200v", got, list)
	}
	if b.Len() != len(want) {
		t.Errorf("Len: %d, want %d", b.Len(), len(want))
	}
	times := map[Message]int{}
	for _, m := range want {
		times[m]++
	}
	for m, n := range times {
		if b.Count(m) != n {
			t.Errorf("Count(%.40v): %d, want %d", m, b.Count(m), n)
		}
	}
}

// full is a bag of two nodes without room: of one message half of them, of the others one each.
func full(t *testing.T) *Bag {
	t.Helper()
	b := made(t, 2)
	for i := range MaxBag {
		text := ""
		if i%2 == 1 {
			text = strconv.Itoa(i)
		}
		mustPut(t, b, Message{0, 1, text})
	}
	return b
}

// 5.1: how many nodes there may be.
func TestNew(t *testing.T) {
	for nodes := 1; nodes <= 7; nodes++ {
		check(t, made(t, nodes))
	}
	for _, nodes := range []int{0, -1, 8, 1 << 32, 1<<32 + 1, math.MinInt, math.MaxInt} {
		if b, e := New(nodes); b != nil || e != api.ErrArg {
			t.Errorf("New(%d): %v, %v", nodes, b, e)
		}
	}
	if MaxBag != 1024 {
		t.Error(MaxBag)
	}
}

// The document's own example.
func TestExample(t *testing.T) {
	b := made(t, 2)
	mustPut(t, b, Message{0, 1, "b"}, Message{0, 1, "a"}, Message{0, 1, "a"})
	check(t, b, Message{0, 1, "a"}, Message{0, 1, "a"}, Message{0, 1, "b"})
	if m, e := b.Deliver(1); m != (Message{0, 1, "b"}) || e != api.OK {
		t.Errorf("Deliver(1): %v, %v", m, e)
	}
	check(t, b, Message{0, 1, "a"}, Message{0, 1, "a"})
}

// 5.1: From and To are nodes, each of them, a node's own among them; nothing else is.
func TestPutNodes(t *testing.T) {
	for nodes := 1; nodes <= 7; nodes++ {
		b := made(t, nodes)
		want := []Message{}
		for to := range nodes {
			for from := range nodes {
				mustPut(t, b, Message{from, to, "x"})
				want = append(want, Message{from, to, "x"})
			}
		}
		for _, wrong := range []int{-1, nodes, nodes + 1, -nodes, 1 << 32, -1 << 32, math.MinInt, math.MaxInt} {
			for _, m := range []Message{{wrong, 0, "x"}, {0, wrong, "x"}, {wrong, wrong, "x"}, {wrong, nodes - 1, ""}, {nodes - 1, wrong, ""}} {
				if e := b.Put(m); e != api.ErrArg || b.Count(m) != 0 {
					t.Errorf("%d nodes, Put(%v): %v", nodes, m, e)
				}
			}
		}
		check(t, b, want...)
	}
}

// 5.1: how long a text may be.
func TestPutText(t *testing.T) {
	b := made(t, 1)
	longest := strings.Repeat("x", 65535)
	for _, n := range []int{65536, 65537, 1 << 17, 1 << 20} {
		if e := b.Put(Message{Text: strings.Repeat("x", n)}); e != api.ErrLong {
			t.Errorf("Put of %d bytes: %v", n, e)
		}
	}
	check(t, b)
	mustPut(t, b, Message{Text: longest}, Message{}, Message{Text: longest[1:]}, Message{Text: longest})
	check(t, b, Message{}, Message{Text: longest[1:]}, Message{Text: longest}, Message{Text: longest})
	if m, e := b.Deliver(2); m.Text != longest || e != api.OK {
		t.Errorf("Deliver: %d bytes, %v", len(m.Text), e)
	}
	check(t, b, Message{}, Message{Text: longest[1:]}, Message{Text: longest})
}

// 5.1, 5.2 and R4: a bag is full by how often its messages are there; which error comes first; what is refused changes nothing.
func TestFull(t *testing.T) {
	b := full(t)
	list := b.List()
	long := strings.Repeat("x", 65536)
	for _, c := range []struct {
		m    Message
		want api.Errno
	}{
		{Message{0, 1, ""}, api.ErrFull}, {Message{0, 1, "new"}, api.ErrFull}, {Message{1, 0, ""}, api.ErrFull}, {Message{0, 1, long[1:]}, api.ErrFull},
		{Message{0, 1, long}, api.ErrLong}, {Message{0, 2, long}, api.ErrArg}, {Message{-1, 1, long}, api.ErrArg}, {Message{2, 0, ""}, api.ErrArg},
	} {
		if e := b.Put(c.m); e != c.want {
			t.Errorf("Put(%.40v): %v, want %v", c.m, e, c.want)
		}
	}
	for i, want := range map[int]api.Errno{0: api.ErrFull, 1: api.ErrFull, 512: api.ErrFull, 513: api.ErrNone, 1023: api.ErrNone, 1024: api.ErrNone, -1: api.ErrNone} {
		if e := b.Twice(i); e != want {
			t.Errorf("Twice(%d): %v, want %v", i, e, want)
		}
	}
	if !slices.Equal(b.List(), list) || len(list) != 513 || b.Len() != 1024 || b.Count(Message{0, 1, ""}) != 512 || b.Count(Message{0, 1, "new"}) != 0 {
		t.Errorf("%d messages, %d in the list", b.Len(), len(b.List()))
	}
	for range 2 {
		if e := b.Drop(3); e != api.OK || b.Len() != 1023 {
			t.Errorf("Drop: %v, %d", e, b.Len())
		}
		if e := b.Twice(0); e != api.OK || b.Len() != 1024 {
			t.Errorf("Twice: %v, %d", e, b.Len())
		}
		if e := b.Put(Message{0, 1, "new"}); e != api.ErrFull {
			t.Errorf("Put: %v", e)
		}
	}
	if b.Count(Message{0, 1, ""}) != 514 {
		t.Error(b.Count(Message{0, 1, ""}))
	}
}

// 5.1: one message alone may fill a bag, by being put or doubled.
func TestFullOfOne(t *testing.T) {
	m := Message{1, 0, "same"}
	for _, more := range []func(*Bag) api.Errno{
		func(b *Bag) api.Errno { return b.Put(m) },
		func(b *Bag) api.Errno { return b.Twice(0) },
	} {
		b := made(t, 2)
		mustPut(t, b, m)
		for n := 1; n < MaxBag; n++ {
			if e := more(b); e != api.OK || b.Len() != n+1 || b.Count(m) != n+1 || len(b.List()) != 1 {
				t.Fatalf("the %dth: %v", n+1, e)
			}
		}
		if e := more(b); e != api.ErrFull || b.Count(m) != MaxBag {
			t.Errorf("beyond the last: %v", e)
		}
		for n := MaxBag; n > 0; n-- {
			if got, e := b.Deliver(0); got != m || e != api.OK || b.Count(m) != n-1 || b.Len() != n-1 {
				t.Fatalf("Deliver of %d: %v, %v", n, got, e)
			}
		}
		check(t, b)
	}
}

// ordered are messages in the list's order.
func ordered() []Message {
	out := []Message{}
	for to := range 3 {
		for from := range 3 {
			for _, text := range []string{"", "\x00", "\x00\x00", "\x00b", "\x01", "10", "9", "A", "a", "a\x00", "aa", "ab", "b", "\x7f", "\x80", "\xc3", "\xc3\xa9", "\xff", "\xff\xff"} {
				out = append(out, Message{from, to, text})
			}
		}
	}
	return out
}

// 5.3, 5.4: the list goes by To, then From, then Text, in whatever order messages were put.
func TestOrder(t *testing.T) {
	want := ordered()
	for _, stride := range []int{1, 2, 4, 5, 7, 8, len(want) - 1} {
		b := made(t, 3)
		for i := range want {
			mustPut(t, b, want[i*stride%len(want)])
		}
		check(t, b, want...)
		for _, m := range want {
			if got, e := b.Deliver(0); got != m || e != api.OK {
				t.Fatalf("Deliver(0): %v, %v, want %v", got, e, m)
			}
		}
		check(t, b)
	}
}

// 5.2: what each call does to each message of a list, and to no other one.
func TestEach(t *testing.T) {
	a, b, c := Message{1, 0, "z"}, Message{0, 1, "a"}, Message{0, 1, "b"}
	for i, want := range []struct {
		m            Message
		less, double []Message
	}{
		{a, []Message{b, b, c}, []Message{a, a, b, b, c}},
		{b, []Message{a, b, c}, []Message{a, b, b, b, c}},
		{c, []Message{a, b, b}, []Message{a, b, b, c, c}},
	} {
		delivered, dropped, doubled := made(t, 2), made(t, 2), made(t, 2)
		for _, x := range []*Bag{delivered, dropped, doubled} {
			mustPut(t, x, b, c, b, a)
		}
		if m, e := delivered.Deliver(i); m != want.m || e != api.OK {
			t.Errorf("Deliver(%d): %v, %v", i, m, e)
		}
		if e := dropped.Drop(i); e != api.OK {
			t.Errorf("Drop(%d): %v", i, e)
		}
		if e := doubled.Twice(i); e != api.OK {
			t.Errorf("Twice(%d): %v", i, e)
		}
		check(t, delivered, want.less...)
		check(t, dropped, want.less...)
		check(t, doubled, want.double...)
	}
}

// 5.2 and R4: there is no such message, of a bag with some and of an empty one.
func TestNone(t *testing.T) {
	some := []Message{{0, 1, "a"}, {0, 1, "a"}, {0, 1, "b"}}
	for _, want := range [][]Message{nil, some} {
		b := made(t, 2)
		mustPut(t, b, want...)
		for _, i := range []int{-1, 2, 3, 1024, 1 << 32, -1 << 32, math.MinInt, math.MaxInt} {
			checkNone(t, b, i)
		}
		check(t, b, want...)
	}
	checkNone(t, made(t, 1), 0)
}

func checkNone(t *testing.T, b *Bag, i int) {
	t.Helper()
	if m, e := b.Deliver(i); m != (Message{}) || e != api.ErrNone {
		t.Errorf("Deliver(%d): %v, %v", i, m, e)
	}
	if e := b.Drop(i); e != api.ErrNone {
		t.Errorf("Drop(%d): %v", i, e)
	}
	if e := b.Twice(i); e != api.ErrNone {
		t.Errorf("Twice(%d): %v", i, e)
	}
}

// 5.3: messages that are one but for one field are others.
func TestCount(t *testing.T) {
	b := made(t, 3)
	m := Message{1, 2, "ab"}
	mustPut(t, b, m, m)
	for _, other := range []Message{{2, 1, "ab"}, {0, 2, "ab"}, {1, 1, "ab"}, {1, 2, "a"}, {1, 2, "abc"}, {1, 2, ""}, {1, 2, "aB"}, {1, 2, "ab\x00"}, {-1, 2, "ab"}, {1, 3, "ab"}, {}} {
		if b.Count(other) != 0 {
			t.Errorf("Count(%v): %d", other, b.Count(other))
		}
	}
	check(t, b, m, m)
	if b.Drop(0) != api.OK || b.Count(m) != 1 || b.Drop(0) != api.OK || b.Count(m) != 0 {
		t.Errorf("dropped: %d", b.Count(m))
	}
	check(t, b)
	mustPut(t, b, m)
	check(t, b, m)
}

// R3: a list that was told is the caller's, spare room too; two bags share nothing.
func TestApart(t *testing.T) {
	b, other := made(t, 2), made(t, 2)
	want := []Message{{0, 0, "a"}, {0, 1, "b"}, {1, 1, "c"}}
	mustPut(t, b, want...)
	first, second := b.List(), b.List()
	for i := range first[:cap(first)] {
		first[:cap(first)][i] = Message{7, 7, "changed"}
	}
	if !slices.Equal(second, want) {
		t.Errorf("another list: %v", second)
	}
	check(t, b, want...)
	check(t, other)
	mustPut(t, other, want[0])
	if e := b.Drop(0); e != api.OK {
		t.Error(e)
	}
	check(t, other, want[0])
	check(t, b, want[1:]...)
	if !slices.Equal(second, want) {
		t.Errorf("a list told ahead: %v", second)
	}
}

// What a nil bag does, and one that New did not make.
func TestNil(t *testing.T) {
	for _, b := range []*Bag{nil, {}} {
		for range 2 {
			for _, m := range []Message{{}, {0, 1, "a"}, {-1, -1, ""}, {Text: strings.Repeat("x", 65536)}} {
				if e := b.Put(m); e != api.ErrArg {
					t.Errorf("Put(%.40v): %v", m, e)
				}
				if b.Count(m) != 0 {
					t.Errorf("Count(%.40v): %d", m, b.Count(m))
				}
			}
			for _, i := range []int{math.MinInt, -1, 0, 1, math.MaxInt} {
				checkNone(t, b, i)
			}
			if l := b.List(); len(l) != 0 || b.Len() != 0 {
				t.Errorf("List: %v, Len: %d", l, b.Len())
			}
		}
	}
}

// plain is a bag by the document's words alone: its messages, as often as each is there, in the list's order.
type plain []Message

func (p plain) list() []Message {
	return slices.Compact(slices.Clone(p))
}

func (p plain) with(m Message) plain {
	out := append(slices.Clone(p), m)
	slices.SortFunc(out, func(x, y Message) int {
		if c := 10*x.To + x.From - 10*y.To - y.From; c != 0 {
			return c
		}
		return strings.Compare(x.Text, y.Text)
	})
	return out
}

func (p plain) without(m Message) plain {
	at := slices.Index(p, m)
	return slices.Delete(slices.Clone(p), at, at+1)
}

// 5.1 to 5.4: long runs of all calls against the plain bag.
func TestRuns(t *testing.T) {
	x := uint32(7)
	next := func(n int) int {
		x = x*1664525 + 1013904223
		return int(x>>8) % n
	}
	for run := range 60 {
		nodes := 1 + next(7)
		b, p := made(t, nodes), plain{}
		came, gone := map[Message]int{}, map[Message]int{}
		for step := range 150 {
			i := next(len(p.list())+3) - 1
			m, ok := Message{}, i >= 0 && i < len(p.list())
			if ok {
				m = p.list()[i]
			}
			var e api.Errno
			kind := next(7)
			switch kind {
			case 0:
				var got Message
				got, e = b.Deliver(i)
				if got != m {
					t.Errorf("Deliver(%d): %v, want %v", i, got, m)
				}
			case 1:
				e = b.Drop(i)
			case 2:
				e = b.Twice(i)
			default:
				m, ok = Message{next(nodes), next(nodes), "abc"[:next(4)]}, true
				e = b.Put(m)
			}
			switch {
			case !ok && e != api.ErrNone || ok && e != api.OK:
				t.Errorf("kind %d of %d: %v", kind, i, e)
			case ok && kind < 2:
				p = p.without(m)
				gone[m]++
			case ok:
				p = p.with(m)
				came[m]++
			}
			check(t, b, p...)
			if gone[m] > came[m] || b.Count(m) != came[m]-gone[m] {
				t.Errorf("%v came %d times and is gone %d times", m, came[m], gone[m])
			}
			if t.Failed() {
				t.Fatalf("run %d, step %d", run, step)
			}
		}
	}
}

// P1: a bag that is full of long texts, alike but for their ends, is gone through soon.
func TestMany(t *testing.T) {
	b := made(t, 7)
	text := strings.Repeat("x", 65531)
	for i := range MaxBag {
		mustPut(t, b, Message{i % 7, i * 3 % 7, text + strconv.Itoa(1000+i)})
	}
	left := b.List()
	for i := range 60 {
		at := i * 37 % len(left)
		if m, e := b.Deliver(at); m != left[at] || e != api.OK || b.Count(m) != 0 {
			t.Fatalf("Deliver(%d): %v", at, e)
		}
		left = slices.Delete(left, at, at+1)
	}
	check(t, b, left...)
}
