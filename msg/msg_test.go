package msg

import (
	"math"
	"slices"
	"strings"
	"testing"

	"cartulary/api"
	"cartulary/codec"
	"cartulary/replog"
	"cartulary/sum"
)

// source is a source of numbers, always the same ones.
type source uint32

func (x *source) next(n int) int {
	*x = *x*1664525 + 1013904223
	return int(*x>>8) % n
}

// outOfRange are numbers that no message has.
var outOfRange = []int{math.MinInt, -api.MaxSeq, -2, -1, api.MaxSeq + 1, api.MaxSeq + 2, 1 << 62, math.MaxInt}

// edges are numbers at which their bytes are more by one, and the greatest that may be.
var edges = []int{0, 1, 127, 128, 16383, 16384, 1<<21 - 1, 1 << 21, 1<<35 - 1, 1 << 35, api.MaxSeq - 1, api.MaxSeq}

func entry(view, client, req int, path string) api.Entry {
	return api.Entry{View: view, Client: client, Req: req, Op: api.Op{Kind: api.OpCreate, Path: path}}
}

// small are so many entries of nine bytes.
func small(many int) []api.Entry {
	l := make([]api.Entry, many)
	for i := range l {
		l[i] = api.Entry{Client: i % 128, Req: 1 + i/128}
	}
	return l
}

// wrong are entries that are not right, each by one thing.
func wrong() []api.Entry {
	long := strings.Repeat("x", 4097)
	return []api.Entry{
		{},
		{View: -1, Req: 1}, {View: api.MaxSeq + 1, Req: 1},
		{Client: -1, Req: 1}, {Client: api.MaxSeq + 1, Req: 1},
		{Req: 0}, {Req: -1}, {Req: api.MaxSeq + 1},
		{Req: 1, Op: api.Op{Path: long}}, {Req: 1, Op: api.Op{To: long}}, {Req: 1, Op: api.Op{Data: long}},
	}
}

// whole is a message with each field filled.
func whole() Message {
	return Message{Kind: Tell, View: 300, Normal: 200, At: 128, Commit: 127, Entries: []api.Entry{
		entry(1, 2, 3, "/a"),
		entry(1, 2, 4, ""),
		{View: 300, Client: api.MaxSeq, Req: api.MaxSeq, Op: api.Op{Kind: -1, At: math.MinInt, N: math.MaxInt, Path: "\x00", To: "/b", Data: strings.Repeat("\xff", 200)}},
	}}
}

func same(a, b Message) bool {
	return a.Kind == b.Kind && a.View == b.View && a.Normal == b.Normal && a.At == b.At && a.Commit == b.Commit && slices.Equal(a.Entries, b.Entries)
}

// plain are numbers and texts of entries, right or not, without the sum.
func plain(numbers []int, entries ...string) string {
	w := codec.New()
	for _, n := range numbers {
		w.Uint(n)
	}
	return w.Out() + strings.Join(entries, "")
}

func bytesOf(t *testing.T, l ...api.Entry) string {
	t.Helper()
	out := ""
	for _, x := range l {
		s, e := replog.Encode(x)
		if e != api.OK {
			t.Fatalf("%v: %v", x, e)
		}
		out += s
	}
	return out
}

// there holds that a message has its bytes, and these that message.
func there(t *testing.T, m Message) string {
	t.Helper()
	want := sum.Seal(plain([]int{m.Kind, m.View, m.Normal, m.At, m.Commit, len(m.Entries)}, bytesOf(t, m.Entries...)))
	s, e := Encode(m)
	if s != want || e != api.OK {
		t.Fatalf("Encode(%v): %q, %v; want %q", m, s, e, want)
	}
	if back, e := Decode(s); !same(back, m) || e != api.OK {
		t.Fatalf("Decode: %v, %v; want %v", back, e, m)
	}
	return s
}

func notEncoded(t *testing.T, m Message, want api.Errno) {
	t.Helper()
	if s, e := Encode(m); s != "" || e != want {
		t.Errorf("Encode(%v): %d bytes, %v; want %v", m, len(s), e, want)
	}
}

func notDecoded(t *testing.T, s string, want api.Errno) {
	t.Helper()
	if m, e := Decode(s); !same(m, Message{}) || m.Entries != nil || e != want {
		t.Errorf("Decode(%q): %v, %v; want %v", s, m, e, want)
	}
}

func TestExample(t *testing.T) {
	s := there(t, Message{Kind: Change, View: 2})
	if len(s) != 10 || s[:6] != "\x03\x02\x00\x00\x00\x00" {
		t.Errorf("%x", s)
	}
}

func TestConstants(t *testing.T) {
	if !slices.Equal([]int{Prepare, Acked, Change, Offer, Start, Ask, Tell}, []int{1, 2, 3, 4, 5, 6, 7}) || MaxBytes != 60000 {
		t.Error("other numbers")
	}
}

// 23.1

func TestNumbers(t *testing.T) {
	for kind := Prepare; kind <= Tell; kind++ {
		there(t, Message{Kind: kind})
		for _, n := range edges {
			there(t, Message{Kind: kind, View: n})
			there(t, Message{Kind: kind, Normal: n})
			there(t, Message{Kind: kind, At: n})
			there(t, Message{Kind: kind, Commit: n})
			there(t, Message{Kind: kind, View: n, Normal: n, At: n, Commit: n, Entries: []api.Entry{entry(n, n, max(1, n), "/a")}})
		}
	}
	for _, n := range outOfRange {
		notEncoded(t, Message{Kind: Tell, View: n}, api.ErrForm)
		notEncoded(t, Message{Kind: Tell, Normal: n}, api.ErrForm)
		notEncoded(t, Message{Kind: Tell, At: n}, api.ErrForm)
		notEncoded(t, Message{Kind: Tell, Commit: n}, api.ErrForm)
	}
	for _, kind := range []int{math.MinInt, -1, 0, 8, 9, 128 + 1, 256 + 1, math.MaxInt} {
		notEncoded(t, Message{Kind: kind}, api.ErrForm)
		m := whole()
		m.Kind = kind
		notEncoded(t, m, api.ErrForm)
	}
}

func TestEntries(t *testing.T) {
	there(t, whole())
	there(t, Message{Kind: Offer, Entries: []api.Entry{}})
	for _, n := range []int{1, 2, 127, 128, 129, 4096} {
		there(t, Message{Kind: Start, Entries: small(n)})
	}
	text := strings.Repeat("y", 4096)
	there(t, Message{Kind: Start, Entries: []api.Entry{{Req: 1, Op: api.Op{Path: text, To: text, Data: text}}}})
	// An entry's View may be above the message's own, and the same request may come twice.
	there(t, Message{Kind: Start, View: 1, Entries: []api.Entry{entry(5, 1, 1, ""), entry(5, 1, 1, "")}})
	for _, x := range wrong() {
		notEncoded(t, Message{Kind: Tell, Entries: []api.Entry{x}}, api.ErrForm)
		notEncoded(t, Message{Kind: Tell, Entries: []api.Entry{entry(0, 1, 1, "/a"), x}}, api.ErrForm)
		notEncoded(t, Message{Kind: Tell, Entries: []api.Entry{x, entry(api.MaxSeq, 1, 1, "/a")}}, api.ErrForm)
	}
}

func TestFalling(t *testing.T) {
	views := func(l ...int) []api.Entry {
		out := []api.Entry{}
		for i, v := range l {
			out = append(out, entry(v, 1, i+1, "/a"))
		}
		return out
	}
	for _, l := range [][]int{{5}, {0, 0, 0}, {0, 1, 1, 7, 300}, {0, api.MaxSeq, api.MaxSeq}} {
		there(t, Message{Kind: Tell, Entries: views(l...)})
	}
	for _, l := range [][]int{{1, 0}, {api.MaxSeq, api.MaxSeq - 1}, {0, 1, 2, 1}, {3, 0, 3}, {0, 0, 5, 4, 9}} {
		m := Message{Kind: Tell, Entries: views(l...)}
		notEncoded(t, m, api.ErrForm)
		notDecoded(t, sum.Seal(plain([]int{Tell, 0, 0, 0, 0, len(l)}, bytesOf(t, m.Entries...))), api.ErrForm)
	}
}

// sized is a message of so many bytes in all.
func sized(t *testing.T, many int) Message {
	t.Helper()
	text := strings.Repeat("z", 4096)
	m := Message{Kind: Offer}
	for range 14 {
		m.Entries = append(m.Entries, api.Entry{Req: 1, Op: api.Op{Data: text}})
	}
	rest := many - 4 - len(plain([]int{Offer, 0, 0, 0, 0, 15})) - len(bytesOf(t, m.Entries...)) - len(bytesOf(t, api.Entry{Req: 1, Op: api.Op{Path: text[:200]}})) + 200
	m.Entries = append(m.Entries, api.Entry{Req: 1, Op: api.Op{Path: text[:rest]}})
	return m
}

func TestMaxBytes(t *testing.T) {
	for _, n := range []int{59998, 59999, 60000} {
		if s := there(t, sized(t, n)); len(s) != n {
			t.Fatalf("%d bytes; want %d", len(s), n)
		}
	}
	for _, n := range []int{60001, 60002, 60100} {
		m := sized(t, n)
		notEncoded(t, m, api.ErrLong)
		notDecoded(t, sum.Seal(plain([]int{Offer, 0, 0, 0, 0, len(m.Entries)}, bytesOf(t, m.Entries...))), api.ErrLong)
	}
	notEncoded(t, Message{Kind: Tell, Entries: small(7000)}, api.ErrLong)
	// What is not right is told ahead of what is too long.
	for _, x := range wrong() {
		m := sized(t, 60001)
		m.Entries = append(m.Entries, x)
		notEncoded(t, m, api.ErrForm)
	}
	m := sized(t, 60001)
	m.Kind = 0
	notEncoded(t, m, api.ErrForm)
	m = sized(t, 60001)
	m.Entries[0].View = 1
	notEncoded(t, m, api.ErrForm)
	// Bytes are too long ahead of what they are.
	notDecoded(t, strings.Repeat("\x00", 60000), api.ErrForm)
	notDecoded(t, strings.Repeat("\x00", 60001), api.ErrLong)
	notDecoded(t, strings.Repeat("x", 1<<20), api.ErrLong)
}

func TestNoMessage(t *testing.T) {
	a := bytesOf(t, entry(1, 1, 1, "/a"))
	wide := "\x80\x00"
	above := plain([]int{api.MaxSeq + 1})
	for _, s := range []string{
		"",
		"\x03", "\x03\x02", "\x03\x02\x00\x00\x00",
		plain([]int{0, 0, 0, 0, 0, 0}), plain([]int{8, 0, 0, 0, 0, 0}), plain([]int{math.MaxInt, 0, 0, 0, 0, 0}),
		"\x03" + above + "\x00\x00\x00\x00", "\x03\x00" + above + "\x00\x00\x00", "\x03\x00\x00" + above + "\x00\x00", "\x03\x00\x00\x00" + above + "\x00",
		// Numbers that are not in the shortest form, or of too many bytes.
		"\x83\x00\x00\x00\x00\x00\x00", "\x03" + wide + "\x00\x00\x00\x00", "\x03\x00\x00\x00\x00" + wide, "\x03" + strings.Repeat("\xff", 9) + "\x01\x00\x00\x00\x00",
		// More or fewer entries than are told, or something behind them.
		plain([]int{3, 0, 0, 0, 0, 1}), plain([]int{3, 0, 0, 0, 0, 2}, a), plain([]int{3, 0, 0, 0, 0, 0}, a), plain([]int{3, 0, 0, 0, 0, 1}, a, a), plain([]int{3, 0, 0, 0, 0, 1}, a, "\x00"),
		plain([]int{3, 0, 0, 0, 0, math.MaxInt}), plain([]int{3, 0, 0, 0, 0, math.MaxInt}, a, a), plain([]int{3, 0, 0, 0, 0, 1 << 40}),
		// Entries that are none: of request 0, of a View above all, of a text too long, cut.
		plain([]int{3, 0, 0, 0, 0, 1}, "\x00\x00\x00\x00\x00\x00\x00\x00\x00"), plain([]int{3, 0, 0, 0, 0, 1}, above+"\x00\x01\x00\x00\x00\x00\x00\x00"),
		plain([]int{3, 0, 0, 0, 0, 1}, "\x00\x00\x01\x00\x00\x00\x00\x00\x81\x20"+strings.Repeat("x", 4097)), plain([]int{3, 0, 0, 0, 0, 1}, a[:len(a)-1]),
	} {
		notDecoded(t, sum.Seal(s), api.ErrForm)
	}
	// Too short for a sum, and one of nothing.
	for _, s := range []string{"", "\x00", "\x00\x00\x00", "\x00\x00\x00\x00"} {
		notDecoded(t, s, api.ErrForm)
	}
}

func TestSize(t *testing.T) {
	size := func(l []api.Entry, want int) {
		t.Helper()
		if n, e := Size(l); n != want || e != api.OK {
			t.Errorf("Size: %d, %v; want %d", n, e, want)
		}
	}
	size(nil, 0)
	size([]api.Entry{}, 0)
	size([]api.Entry{entry(1, 2, 3, "/a")}, 11)
	size(small(4096), 9*4096)
	l := whole().Entries
	size(l, len(bytesOf(t, l...)))
	// Their Views may fall, and they may have more bytes than a message.
	slices.Reverse(l)
	size(l, len(bytesOf(t, l...)))
	l = sized(t, 60001).Entries
	l = append(l, l...)
	size(l, len(bytesOf(t, l...)))
	for _, x := range wrong() {
		for _, l := range [][]api.Entry{{x}, {x, entry(1, 1, 1, "")}, {entry(1, 1, 1, ""), x}} {
			if n, e := Size(l); n != 0 || e != api.ErrForm {
				t.Errorf("Size(%v): %d, %v", l, n, e)
			}
		}
	}
}

// 23.2

// someMessage is a right message.
func someMessage(r *source) Message {
	number := func() int { return max(0, min(api.MaxSeq, edges[r.next(len(edges))]+r.next(3)-1)) }
	m := Message{Kind: 1 + r.next(7), View: number(), Normal: number(), At: number(), Commit: number()}
	view := r.next(3)
	for range r.next(5) * r.next(5) {
		view = min(api.MaxSeq, view+r.next(4)/3*number())
		op := api.Op{Kind: r.next(14) - 1, At: number() - 5, N: number() - 5, Path: strings.Repeat("/a", r.next(4)), To: strings.Repeat("b", r.next(200)), Data: string(make([]byte, r.next(30)))}
		m.Entries = append(m.Entries, api.Entry{View: view, Client: number(), Req: max(1, number()), Op: op})
	}
	return m
}

func TestRuns(t *testing.T) {
	r := source(1)
	for range 3000 {
		there(t, someMessage(&r))
	}
}

func TestTurned(t *testing.T) {
	s := there(t, whole())
	for i := range s {
		notDecoded(t, s[:i], api.ErrForm)
		for bit := range 8 {
			b := []byte(s)
			b[i] ^= 1 << bit
			notDecoded(t, string(b), api.ErrForm)
		}
	}
	notDecoded(t, s+"\x00", api.ErrForm)
	notDecoded(t, s+s, api.ErrForm)
}

// Bytes that carry their sum are the bytes of the message that they are read as, or of none.
func TestOneForm(t *testing.T) {
	r := source(7)
	right := 0
	for range 40000 {
		s, _ := Encode(someMessage(&r))
		b := []byte(s[:len(s)-4])
		for range 1 + r.next(2) {
			b[r.next(len(b))] = byte([]int{r.next(256), r.next(4), 128, 127}[r.next(4)])
		}
		if r.next(5) == 0 {
			b = b[:r.next(len(b))]
		}
		text := sum.Seal(string(b))
		m, e := Decode(text)
		if e == api.OK {
			right++
			if again := there(t, m); again != text {
				t.Fatalf("%x and %x are one message", text, again)
			}
			continue
		}
		if e != api.ErrForm || !same(m, Message{}) {
			t.Fatalf("%v, %v", m, e)
		}
	}
	if right < 1000 {
		t.Errorf("%d were right", right)
	}
}

// R3
func TestMemory(t *testing.T) {
	room := append(whole().Entries, entry(400, 7, 7, "spare"))
	given := whole()
	given.Entries = room[:3]
	s, _ := Encode(given)
	Size(room[:3])
	if !same(given, whole()) || room[3] != entry(400, 7, 7, "spare") {
		t.Error("what was handed in is changed")
	}
	a, _ := Decode(s)
	b, _ := Decode(s)
	clear(a.Entries[:cap(a.Entries)])
	if !same(b, whole()) {
		t.Error("two answers share memory")
	}
	if m, _ := Decode(s); !same(m, whole()) {
		t.Error("an answer is kept")
	}
}

// Only what a broken message gives up with is caught: a fault of the program's own stays one.
func TestForeignPanic(t *testing.T) {
	for _, what := range []any{"other", api.ErrForm, 4} {
		caught := any(nil)
		func() {
			defer func() { caught = recover() }()
			attempt(func() { panic(what) })
		}()
		if caught != what {
			t.Errorf("caught %v; want %v", caught, what)
		}
	}
	if e := attempt(func() { panic(broken{api.ErrLong}) }); e != api.ErrLong {
		t.Error(e)
	}
}
