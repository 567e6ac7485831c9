package journal

import (
	"math"
	"reflect"
	"slices"
	"strings"
	"testing"

	"cartulary/api"
	"cartulary/sum"
	"cartulary/txn"
)

// of is a block of one letter.
func of(letter byte) string {
	return strings.Repeat(string([]byte{letter}), api.BlockSize)
}

// run are so many changes, of blocks from first on.
func run(first, count int, letter byte) []api.Change {
	l := []api.Change{}
	for i := range count {
		l = append(l, api.Change{Block: first + i, Data: of(letter)})
	}
	return l
}

// source is a source of numbers, always the same ones.
type source uint32

func (x *source) next(n int) int {
	*x = *x*1664525 + 1013904223
	return int(*x>>8) % n
}

// headerOf is a header's block, byte by byte.
func headerOf(t *testing.T, tail int, first, end uint64) string {
	t.Helper()
	b := []byte{'H', byte(tail), byte(tail >> 8)}
	for _, n := range []uint64{first, end} {
		for i := range 8 {
			b = append(b, byte(n>>(8*i)))
		}
	}
	return blockOf(t, string(b))
}

func blockOf(t *testing.T, text string) string {
	t.Helper()
	b, e := sum.Block(text)
	if e != api.OK {
		t.Fatalf("Block(%q): %v", text, e)
	}
	return b
}

func blocksOf(t *testing.T, seq int, l []api.Change) []string {
	t.Helper()
	b, e := txn.Encode(seq, l)
	if e != api.OK {
		t.Fatalf("Encode(%d): %v", seq, e)
	}
	return b
}

// kept is a transaction as the plain journal has it.
type kept struct {
	seq     int
	changes []api.Change
}

// plain is a journal by the document's words, with the region on which all writes were laid.
type plain struct {
	region []string
	tail   int
	first  int
	sealed int
	list   []kept
}

func newPlain(t *testing.T, n int) *plain {
	t.Helper()
	p := &plain{first: 1}
	for range n {
		p.region = append(p.region, of(0))
	}
	p.region[0] = headerOf(t, 0, 1, 1)
	return p
}

func (p *plain) ring() int { return len(p.region) - 1 }

// taken is how many places the first k transactions have.
func (p *plain) taken(k int) int {
	n := 0
	for _, x := range p.list[:k] {
		n += 1 + len(x.changes)
	}
	return n
}

func (p *plain) next() int { return p.first + len(p.list) }

// append are the blocks of the region that are written, and whether there is room.
func (p *plain) append(t *testing.T, l []api.Change) ([]Write, bool) {
	t.Helper()
	if p.taken(len(p.list))+1+len(l) > p.ring() || p.next() > api.MaxSeq {
		return nil, false
	}
	at := p.tail + p.taken(len(p.list))
	writes := []Write{}
	for i, b := range blocksOf(t, p.next(), l) {
		writes = append(writes, Write{At: (at+i)%p.ring() + 1, Data: b})
	}
	p.list = append(p.list, kept{p.next(), l})
	return writes, true
}

func (p *plain) seal() { p.sealed = len(p.list) }

func (p *plain) done(k int) {
	p.tail = (p.tail + p.taken(k)) % p.ring()
	p.first += k
	p.sealed -= k
	p.list = p.list[k:]
}

func (p *plain) header(t *testing.T) string {
	t.Helper()
	return headerOf(t, p.tail, uint64(p.first), uint64(p.first+p.sealed))
}

// unsealed are the places that no sealed transaction has.
func (p *plain) unsealed() []int {
	out := []int{}
	for i := p.taken(p.sealed); i < p.ring(); i++ {
		out = append(out, (p.tail+i)%p.ring())
	}
	return out
}

// told are the changes of those that are sealed.
func (p *plain) told() [][]api.Change {
	out := [][]api.Change{}
	for _, x := range p.list[:p.sealed] {
		out = append(out, x.changes)
	}
	return out
}

// check holds a journal against the plain one.
func (p *plain) check(t *testing.T, j *Journal) {
	t.Helper()
	count, sealed := j.Count()
	if count != len(p.list) || sealed != p.sealed {
		t.Fatalf("Count: %d, %d, want %d, %d", count, sealed, len(p.list), p.sealed)
	}
	if j.Free() != p.ring()-p.taken(len(p.list)) || j.Next() != p.next() {
		t.Fatalf("Free %d, Next %d, want %d, %d", j.Free(), j.Next(), p.ring()-p.taken(len(p.list)), p.next())
	}
	if j.Header() != p.header(t) {
		t.Fatalf("Header: %q, want %q", j.Header()[:24], p.header(t)[:24])
	}
}

func sameLists(a, b [][]api.Change) bool {
	return slices.EqualFunc(a, b, func(x, y []api.Change) bool { return slices.Equal(x, y) })
}

// checkOpen holds what a region's Open tells against the plain journal.
func (p *plain) checkOpen(t *testing.T, region []string) *Journal {
	t.Helper()
	j, told, e := Open(region)
	if e != api.OK || !sameLists(told, p.told()) {
		t.Fatalf("Open: %d told, %v, want %d", len(told), e, p.sealed)
	}
	only := *p
	only.list = only.list[:only.sealed]
	only.check(t, j)
	return j
}

// put appends to both, and lays the writes.
func (p *plain) put(t *testing.T, j *Journal, l []api.Change) {
	t.Helper()
	want, room := p.append(t, l)
	got, e := j.Append(l)
	if !room {
		if got != nil || e != api.ErrFull {
			t.Fatalf("Append(%d): %v, %v without room", len(l), got, e)
		}
		return
	}
	if !slices.Equal(got, want) || e != api.OK {
		t.Fatalf("Append(%d): %v, want %v", len(l), e, want)
	}
	for _, w := range got {
		p.region[w.At] = w.Data
	}
}

func (p *plain) putSeal(t *testing.T, j *Journal) {
	t.Helper()
	p.seal()
	w := j.Seal()
	if w != (Write{At: 0, Data: p.header(t)}) {
		t.Fatalf("Seal: %d, %q", w.At, w.Data)
	}
	p.region[0] = w.Data
}

func (p *plain) putDone(t *testing.T, j *Journal, k int) {
	t.Helper()
	p.done(k)
	w, e := j.Done(k)
	if w != (Write{At: 0, Data: p.header(t)}) || e != api.OK {
		t.Fatalf("Done(%d): %d, %q, %v", k, w.At, w.Data, e)
	}
	p.region[0] = w.Data
}

func made(t *testing.T, n int) (*Journal, *plain) {
	t.Helper()
	j, e := New(n)
	if j == nil || e != api.OK {
		t.Fatalf("New(%d): %v", n, e)
	}
	p := newPlain(t, n)
	p.check(t, j)
	return j, p
}

// opened is a journal with one empty transaction of that number, sealed.
func opened(t *testing.T, n, tail, seq int) (*Journal, *plain) {
	t.Helper()
	p := newPlain(t, n)
	p.tail, p.first, p.sealed = tail, seq, 1
	p.list = []kept{{seq, nil}}
	p.region[0] = p.header(t)
	p.region[tail+1] = blocksOf(t, seq, nil)[0]
	return p.checkOpen(t, p.region), p
}

// 8.1: how many blocks there may be, and what a journal is at first.
func TestNew(t *testing.T) {
	for _, n := range []int{8, 9, 100, 255, 256} {
		j, p := made(t, n)
		p.checkOpen(t, p.region)
		if j.Free() != n-1 || j.Next() != 1 || j.Header() != headerOf(t, 0, 1, 1) {
			t.Errorf("New(%d): %d, %d", n, j.Free(), j.Next())
		}
	}
	for _, n := range []int{math.MinInt, -8, -1, 0, 1, 7, 257, 1 << 16, 1<<32 + 8, math.MaxInt} {
		if j, e := New(n); j != nil || e != api.ErrArg {
			t.Errorf("New(%d): %v, %v", n, j, e)
		}
	}
}

// 8.1: a header's bytes, written out.
func TestHeader(t *testing.T) {
	j, _ := made(t, 8)
	if b := j.Header(); len(b) != 128 || b[:24] != "\x13\x00H\x00\x00\x01\x00\x00\x00\x00\x00\x00\x00\x01\x00\x00\x00\x00\x00\x00\x00\x00\x00\x00" {
		t.Errorf("%q", b)
	}
	j, p := opened(t, 256, 254, 0x123456789a)
	if b := j.Header(); b[:22] != "\x13\x00H\xfe\x00\x9a\x78\x56\x34\x12\x00\x00\x00\x9b\x78\x56\x34\x12\x00\x00\x00\x00" {
		t.Errorf("%q", b)
	}
	p.putDone(t, j, 1)
	if b := j.Header(); b[:22] != "\x13\x00H\x00\x00\x9b\x78\x56\x34\x12\x00\x00\x00\x9b\x78\x56\x34\x12\x00\x00\x00\x00" {
		t.Errorf("%q", b)
	}
}

// The document's example.
func TestExample(t *testing.T) {
	j, p := made(t, 8)
	w, e := j.Append(run(3, 1, 'a'))
	if e != api.OK || len(w) != 2 || w[0].At != 1 || w[1].At != 2 || w[1].Data != of('a') || j.Free() != 5 {
		t.Fatalf("%v, %v, %d", w, e, j.Free())
	}
	p.region[1], p.region[2] = w[0].Data, w[1].Data
	if _, told, e := Open(p.region); e != api.OK || len(told) != 0 {
		t.Errorf("Open: %v, %v", told, e)
	}
	p.region[0] = j.Seal().Data
	if _, told, e := Open(p.region); e != api.OK || !sameLists(told, [][]api.Change{run(3, 1, 'a')}) {
		t.Errorf("Open: %v, %v", told, e)
	}
	if w, e := j.Done(1); e != api.OK || w != (Write{At: 0, Data: headerOf(t, 2, 2, 2)}) {
		t.Errorf("Done: %v, %v", w, e)
	}
}

// 8.2: transactions fill the ring to its last place, and go round it.
func TestRound(t *testing.T) {
	j, p := made(t, 8)
	p.put(t, j, run(0, 6, 'a'))
	p.check(t, j)
	p.put(t, j, nil)
	p.putSeal(t, j)
	p.putDone(t, j, 1)
	if p.tail != 0 || j.Free() != 7 {
		t.Fatalf("tail %d, free %d", p.tail, j.Free())
	}
	for range 3 {
		p.put(t, j, run(5, 1, 'b'))
	}
	p.putSeal(t, j)
	p.put(t, j, run(5, 1, 'c'))
	p.putDone(t, j, 2)
	p.put(t, j, run(9, 2, 'd'))
	p.check(t, j)
	if got, want := j.Header(), headerOf(t, 4, 4, 5); got != want {
		t.Errorf("%q, want %q", got[:24], want[:24])
	}
	p.putSeal(t, j)
	p.checkOpen(t, p.region)
}

// 8.2: as many transactions as there are places, of one block each, and the greatest one.
func TestMany(t *testing.T) {
	for _, n := range []int{8, 256} {
		j, p := made(t, n)
		for range n {
			p.put(t, j, nil)
		}
		p.putSeal(t, j)
		p.check(t, j)
		if count, sealed := j.Count(); count != n-1 || sealed != n-1 || j.Free() != 0 {
			t.Errorf("%d, %d, %d", count, sealed, j.Free())
		}
		p.checkOpen(t, p.region)
		p.putDone(t, j, n-1)
		p.check(t, j)
		p.checkOpen(t, p.region)
	}
	j, p := made(t, 256)
	for range 6 {
		p.put(t, j, run(100, 48, 'x'))
	}
	if count, _ := j.Count(); count != 5 || j.Free() != 255-5*49 {
		t.Errorf("%d, %d", count, j.Free())
	}
	p.putSeal(t, j)
	p.checkOpen(t, p.region)
}

// wrongs are changes that are not right.
func wrongs() [][]api.Change {
	return [][]api.Change{
		run(-1, 1, 'a'), run(1024, 1, 'a'), run(0, 49, 'a'), append(run(2, 1, 'a'), run(2, 1, 'b')...), append(run(2, 1, 'a'), run(1, 1, 'b')...), {{Block: 1, Data: "short"}}, {{Block: 1}},
	}
}

// 8.2 and R4: what is refused, and that nothing is changed; ErrTxn goes ahead of ErrFull.
func TestAppendRefuses(t *testing.T) {
	j, p := made(t, 8)
	p.put(t, j, run(1, 2, 'a'))
	for _, full := range []bool{false, true} {
		for i, l := range wrongs() {
			if w, e := j.Append(l); w != nil || e != api.ErrTxn {
				t.Errorf("full %v, wrong %d: %v, %v", full, i, w, e)
			}
		}
		for _, n := range []int{4, 5, 6, 7, 47, 48} {
			if w, e := j.Append(run(0, n, 'b')); w != nil || e != api.ErrFull {
				t.Errorf("full %v, %d changes: %v, %v", full, n, w, e)
			}
		}
		p.check(t, j)
		p.put(t, j, run(0, 3, 'c'))
		p.check(t, j)
	}
	if w, e := j.Append(nil); w != nil || e != api.ErrFull {
		t.Errorf("%v, %v", w, e)
	}
	p.putSeal(t, j)
	p.checkOpen(t, p.region)
}

// 8.2: the last number that there is.
func TestLastNumber(t *testing.T) {
	j, p := opened(t, 8, 6, api.MaxSeq-1)
	p.put(t, j, run(1, 1, 'a'))
	if j.Next() != api.MaxSeq+1 || j.Free() != 4 {
		t.Fatalf("Next %d, Free %d", j.Next(), j.Free())
	}
	for _, l := range [][]api.Change{nil, run(1, 1, 'b'), run(1, 20, 'b')} {
		if w, e := j.Append(l); w != nil || e != api.ErrFull {
			t.Errorf("%v, %v", w, e)
		}
	}
	if w, e := j.Append(wrongs()[0]); w != nil || e != api.ErrTxn {
		t.Errorf("%v, %v", w, e)
	}
	p.check(t, j)
	p.putSeal(t, j)
	p.checkOpen(t, p.region)
	p.putDone(t, j, 1)
	p.checkOpen(t, p.region)
	// 8.3: first is at most MaxSeq, so what has no number left is no journal.
	p.putDone(t, j, 1)
	p.check(t, j)
	checkNone(t, "no number is left", p.region)
	if w, e := j.Append(nil); w != nil || e != api.ErrFull {
		t.Errorf("%v, %v", w, e)
	}
}

// 8.2 and R4: those that are not sealed are not done.
func TestDone(t *testing.T) {
	j, p := made(t, 16)
	wrong := func(most int) {
		t.Helper()
		for _, k := range []int{math.MinInt, -2, -1, most + 1, most + 2, 100, 1 << 32, math.MaxInt} {
			if w, e := j.Done(k); w != (Write{}) || e != api.ErrArg {
				t.Errorf("Done(%d): %v, %v", k, w, e)
			}
		}
		p.check(t, j)
	}
	wrong(0)
	p.putDone(t, j, 0)
	for n := range 3 {
		p.put(t, j, run(n, n, 'a'))
	}
	wrong(0)
	p.putSeal(t, j)
	p.put(t, j, run(9, 1, 'b'))
	wrong(3)
	p.putDone(t, j, 0)
	p.putDone(t, j, 2)
	wrong(1)
	p.put(t, j, run(7, 3, 'c'))
	p.putDone(t, j, 1)
	wrong(0)
	p.checkOpen(t, p.region)
	p.putSeal(t, j)
	wrong(2)
	p.checkOpen(t, p.region)
	p.putDone(t, j, 2)
	wrong(0)
	p.checkOpen(t, p.region)
}

// checkNone holds that a region is no journal's (8.3 and R4).
func checkNone(t *testing.T, what string, region []string) {
	t.Helper()
	if j, told, e := Open(region); j != nil || told != nil || e != api.ErrLog {
		t.Errorf("%s: %v, %v, %v", what, j, told, e)
	}
}

// 8.3: how many blocks a region has.
func TestOpenBlocks(t *testing.T) {
	checkNone(t, "nil", nil)
	for _, n := range []int{0, 1, 2, 7, 257, 1024} {
		region := make([]string, n)
		if n > 0 {
			region[0] = headerOf(t, 0, 1, 1)
		}
		checkNone(t, "blocks", region)
	}
	for _, n := range []int{8, 9, 255, 256} {
		region := make([]string, n)
		region[0] = headerOf(t, n-2, api.MaxSeq, api.MaxSeq)
		if j, told, e := Open(region); e != api.OK || len(told) != 0 || j.Free() != n-1 || j.Next() != api.MaxSeq {
			t.Errorf("%d blocks: %v, %v", n, told, e)
		}
	}
}

// 8.3: block 0 is no header.
func TestOpenHeader(t *testing.T) {
	ring := []string{}
	for i := range 7 {
		ring = append(ring, blocksOf(t, 5+i, nil)[0])
	}
	right := headerOf(t, 0, 5, 12)
	text := right[2:21]
	blocks := []string{"", "H", text, sum.Seal(text), right[:127], right + "\x00", of(0), of('H'), of(255), ring[0]}
	for _, wrong := range []string{"", "H", "T" + text[1:], "h" + text[1:], text[1:], " " + text, text[:3], text[:11], text[:18], text + "\x00", text + text} {
		blocks = append(blocks, blockOf(t, wrong))
	}
	for _, c := range []struct {
		tail       int
		first, end uint64
	}{
		{7, 5, 12}, {8, 5, 12}, {255, 5, 12}, {256, 5, 12}, {65535, 5, 12}, {7, 5, 5},
		{0, 0, 0}, {0, 0, 1}, {0, api.MaxSeq + 1, api.MaxSeq + 1}, {0, math.MaxInt64, math.MaxInt64}, {0, 1 << 63, 1 << 63}, {0, math.MaxUint64, math.MaxUint64}, {0, math.MaxUint64, 0},
		{0, 5, 4}, {0, 5, 0}, {0, 5, 13}, {0, 5, 14}, {0, 5, math.MaxInt64}, {0, 5, 1 << 63}, {0, 5, math.MaxUint64}, {0, 1, 0}, {0, 5, 1<<32 + 5},
	} {
		blocks = append(blocks, headerOf(t, c.tail, c.first, c.end))
	}
	for _, b := range blocks {
		checkNone(t, b, append([]string{b}, ring...))
	}
	for bit := range 8 * api.BlockSize {
		turned := []byte(right)
		turned[bit/8] ^= 1 << (bit % 8)
		checkNone(t, "turned", append([]string{string(turned)}, ring...))
	}
	if _, told, e := Open(append([]string{right}, ring...)); len(told) != 7 || e != api.OK {
		t.Errorf("%v, %v", told, e)
	}
}

// 8.3: a transaction that is sealed is not there, or has another number.
func TestOpenMissing(t *testing.T) {
	j, p := made(t, 12)
	for n := range 3 {
		p.put(t, j, run(n, n+1, 'a'))
	}
	p.putSeal(t, j)
	p.checkOpen(t, p.region)
	for at := 1; at <= p.taken(3); at++ {
		for _, b := range []string{of(0), "", "short", of('b'), p.region[0], of('a') + of('a')} {
			region := slices.Clone(p.region)
			region[at] = b
			checkNone(t, "missing", region)
		}
	}
	for end := uint64(5); end <= 12; end++ {
		checkNone(t, "more are sealed", append([]string{headerOf(t, 0, 1, end)}, p.region[1:]...))
	}
	for _, first := range []uint64{2, 3, 4, 5, 100} {
		checkNone(t, "other numbers", append([]string{headerOf(t, 0, first, first+3)}, p.region[1:]...))
	}
	for tail := 1; tail < 11; tail++ {
		checkNone(t, "another tail", append([]string{headerOf(t, tail, 1, 4)}, p.region[1:]...))
	}
	for sealed := range 4 {
		_, told, e := Open(append([]string{headerOf(t, 0, 1, uint64(1+sealed))}, p.region[1:]...))
		if e != api.OK || !sameLists(told, p.told()[:sealed]) {
			t.Errorf("%d: %v, %v", sealed, told, e)
		}
	}
}

// 8.3: round the ring, but no further than tail: the last transaction's Data is the first one's head, and is not read there.
func TestOpenTail(t *testing.T) {
	for tail := range 7 {
		region := make([]string, 8)
		region[0] = headerOf(t, tail, 1, 4)
		first := blocksOf(t, 1, run(1, 2, 'a'))
		last := blocksOf(t, 3, []api.Change{{Block: 9, Data: first[0]}})
		all := slices.Concat(first, blocksOf(t, 2, run(2, 2, 'b')), last[:1])
		for i, b := range all {
			region[1+(tail+i)%7] = b
		}
		checkNone(t, "beyond tail", region)
		region[0] = headerOf(t, tail, 1, 3)
		if _, told, e := Open(region); len(told) != 2 || e != api.OK {
			t.Errorf("%v, %v", told, e)
		}
	}
}

// 8.4, 8.5 and R6: a journal, and what is opened of its region, are the plain one's, whatever is laid in places that nothing sealed has.
func TestPlain(t *testing.T) {
	for seed := range 40 {
		x := source(seed)
		n := 8 + x.next(30)
		if seed%5 == 0 {
			n = 200 + x.next(57)
		}
		j, p := made(t, n)
		for range 400 {
			switch x.next(5) {
			case 0, 1:
				most := min(48, n)
				p.put(t, j, run(x.next(900), x.next(1+most/(1+x.next(4))), byte(x.next(256))))
			case 2:
				p.putSeal(t, j)
			case 3:
				p.putDone(t, j, x.next(p.sealed+1))
			case 4:
				j = checkTorn(t, &x, p, j)
			}
			p.check(t, j)
		}
	}
}

// checkTorn opens the region as it is and torn, and now and then goes on with what was opened.
func checkTorn(t *testing.T, x *source, p *plain, j *Journal) *Journal {
	t.Helper()
	again := p.checkOpen(t, p.region)
	torn := slices.Clone(p.region)
	for i, at := range p.unsealed() {
		switch x.next(4) {
		case 0:
			torn[at+1] = of(byte(x.next(256)))
		case 1:
			torn[at+1] = strings.Repeat("x", x.next(200))
		case 2:
			// What looks like the next transaction is none that is told.
			torn[at+1] = blocksOf(t, p.first+p.sealed+i, nil)[0]
		}
	}
	p.checkOpen(t, torn)
	if x.next(3) > 0 {
		return j
	}
	p.list = p.list[:p.sealed:p.sealed]
	return again
}

// R3: nothing that is handed in is changed or kept; answers share nothing.
func TestMemory(t *testing.T) {
	j, p := made(t, 16)
	room := run(0, 9, 'r')
	l := room[:2]
	w, e := j.Append(l)
	if e != api.OK || !slices.Equal(room, run(0, 9, 'r')) {
		t.Fatal(e)
	}
	for _, x := range w {
		p.region[x.At] = x.Data
	}
	w = w[:cap(w)]
	for i := range w {
		w[i] = Write{At: 99}
	}
	l[0].Data = of('z')
	p.append(t, run(0, 2, 'r'))
	p.put(t, j, run(5, 1, 's'))
	p.putSeal(t, j)
	p.checkOpen(t, p.region)
	before := slices.Clone(p.region)
	longer := append(slices.Clone(p.region), "behind")
	opened, told, e := Open(longer[:16])
	if e != api.OK || !slices.Equal(longer[:16], before) || longer[16] != "behind" {
		t.Fatal(e)
	}
	for i := range told {
		for k := range told[i][:cap(told[i])] {
			told[i][:cap(told[i])][k] = api.Change{Block: 7, Data: "z"}
		}
		if i == 0 && !slices.Equal(told[1], run(5, 1, 's')) {
			t.Fatal("two lists share memory")
		}
	}
	for i := range longer {
		longer[i] = ""
	}
	p.check(t, opened)
	p.put(t, opened, run(1, 1, 't'))
	p.putSeal(t, opened)
	p.checkOpen(t, p.region)
}

// R6: of a journal that is opened twice, the one knows nothing of the other.
func TestTwo(t *testing.T) {
	j, p := made(t, 20)
	for n := range 4 {
		p.put(t, j, run(n, 1, 'a'))
	}
	p.putSeal(t, j)
	a, b := p.checkOpen(t, p.region), p.checkOpen(t, p.region)
	a.Append(run(0, 3, 'a'))
	b.Append(nil)
	a.Done(4)
	if a.Free() != 19-4 || b.Free() != 19-9 || a.Next() != 6 || b.Next() != 6 {
		t.Errorf("%d, %d, %d, %d", a.Free(), b.Free(), a.Next(), b.Next())
	}
	p.check(t, j)
}

// A nil journal has no places; nor has one that New did not make (P1).
func TestNil(t *testing.T) {
	for _, j := range []*Journal{nil, {}} {
		for i, l := range wrongs() {
			if w, e := j.Append(l); w != nil || e != api.ErrTxn {
				t.Errorf("Append of wrong %d: %v, %v", i, w, e)
			}
		}
		for n := range 49 {
			if w, e := j.Append(run(0, n, 'a')); w != nil || e != api.ErrFull {
				t.Errorf("Append(%d): %v, %v", n, w, e)
			}
		}
		if w := j.Seal(); w != (Write{}) {
			t.Errorf("Seal: %v", w)
		}
		for _, k := range []int{math.MinInt, -1, 1, 2, math.MaxInt} {
			if w, e := j.Done(k); w != (Write{}) || e != api.ErrArg {
				t.Errorf("Done(%d): %v, %v", k, w, e)
			}
		}
		if w, e := j.Done(0); w != (Write{}) || e != api.OK {
			t.Errorf("Done(0): %v, %v", w, e)
		}
		count, sealed := j.Count()
		if j.Header() != "" || j.Free() != 0 || count != 0 || sealed != 0 || j.Next() != 0 {
			t.Errorf("%q, %d, %d, %d, %d", j.Header(), j.Free(), count, sealed, j.Next())
		}
	}
}

// P1: whatever a region has, it is opened or not; what is opened has what it told.
func TestTotal(t *testing.T) {
	x := source(5)
	some := 0
	for range 5000 {
		n := 8 + x.next(4)
		region := make([]string, n)
		for i := range region {
			switch x.next(6) {
			case 0:
				region[i] = of(byte(x.next(256)))
			case 1:
				region[i] = strings.Repeat("q", x.next(130))
			case 2:
				region[i] = blocksOf(t, 1+x.next(4), run(0, x.next(3), byte(x.next(2))))[0]
			case 3:
				region[i] = blocksOf(t, 1+i, nil)[0]
			default:
				region[i] = of(byte(x.next(2)))
			}
		}
		first := x.next(4)
		region[0] = headerOf(t, x.next(n), uint64(first), uint64(first+x.next(3)))
		j, told, e := Open(region)
		if e != api.OK {
			checkNone(t, "none", region)
			continue
		}
		some += len(told)
		count, sealed := j.Count()
		if count != len(told) || sealed != len(told) || j.Header() != region[0] || j.Next() != first+len(told) {
			t.Fatalf("%d told, %d, %d", len(told), count, sealed)
		}
		again, more, e := Open(region)
		if e != api.OK || !sameLists(told, more) || !reflect.DeepEqual(j, again) {
			t.Fatal("another time it tells another thing")
		}
	}
	if some == 0 {
		t.Error("nothing was told")
	}
}
