package cache

import (
	"math"
	"slices"
	"strings"
	"testing"

	"cartulary/api"
)

// of is a block of one letter.
func of(letter byte) string {
	return strings.Repeat(string([]byte{letter}), api.BlockSize)
}

// source is a source of numbers, always the same ones.
type source uint32

func (x *source) next(n int) int {
	*x = *x*1664525 + 1013904223
	return int(*x>>8) % n
}

func mustNew(t *testing.T, frames int) *Cache {
	t.Helper()
	c, e := New(frames)
	if c == nil || e != api.OK {
		t.Fatalf("New(%d): %v", frames, e)
	}
	return c
}

func load(t *testing.T, c *Cache, block int, letter byte, gone int) {
	t.Helper()
	if n, e := c.Load(block, of(letter)); n != gone || e != api.OK {
		t.Fatalf("Load(%d): %d, %v; want %d", block, n, e, gone)
	}
}

func refused(t *testing.T, c *Cache, block int, data string, want api.Errno) {
	t.Helper()
	if n, e := c.Load(block, data); n != 0 || e != want {
		t.Fatalf("Load(%d, %d bytes): %d, %v; want %v", block, len(data), n, e, want)
	}
}

func ok(t *testing.T, e api.Errno) {
	t.Helper()
	if e != api.OK {
		t.Fatal(e)
	}
}

func checkHeld(t *testing.T, c *Cache, want ...int) {
	t.Helper()
	if l := c.Held(); !slices.Equal(l, want) {
		t.Fatalf("Held: %v; want %v", l, want)
	}
}

func checkChanges(t *testing.T, what string, l []api.Change, want ...api.Change) {
	t.Helper()
	if !slices.Equal(l, want) {
		t.Fatalf("%s: %d changes, others than the %d", what, len(l), len(want))
	}
}

func change(block int, letter byte) api.Change {
	return api.Change{Block: block, Data: of(letter)}
}

func TestExample(t *testing.T) {
	c := mustNew(t, 1)
	load(t, c, 1, 'a', -1)
	load(t, c, 2, 'b', 1)
	ok(t, c.Store(2, of('c')))
	refused(t, c, 3, of('d'), api.ErrFull)
	checkChanges(t, "Take", c.Take(), change(2, 'c'))
	load(t, c, 3, 'd', 2)
}

// 10.1

func TestNew(t *testing.T) {
	for _, n := range []int{math.MinInt, -1, 0, 65, 66, 1024, math.MaxInt} {
		if c, e := New(n); c != nil || e != api.ErrArg {
			t.Errorf("New(%d): %v, %v", n, c, e)
		}
	}
	for _, n := range []int{1, 2, 31, 63, 64} {
		c := mustNew(t, n)
		if len(c.Held()) != 0 || len(c.Dirty()) != 0 || len(c.Take()) != 0 {
			t.Errorf("New(%d) is not empty", n)
		}
		// As many are held as there are frames, and no more.
		for i := range n {
			load(t, c, i, 'a', -1)
		}
		load(t, c, n, 'b', 0)
		if l := c.Held(); len(l) != n {
			t.Errorf("%d are held", len(l))
		}
	}
}

// wrongBlocks are arguments of Load and Store that are not right by themselves.
func wrongBlocks() []api.Change {
	l := []api.Change{}
	for _, b := range []int{math.MinInt, -1, api.MaxBlocks, api.MaxBlocks + 1, math.MaxInt} {
		l = append(l, change(b, 'a'), api.Change{Block: b})
	}
	for _, d := range []string{"", "x", of('a')[1:], of('a') + "a", of('a') + of('a')} {
		l = append(l, api.Change{Block: 0, Data: d}, api.Change{Block: 5, Data: d})
	}
	return l
}

func TestLoadWrong(t *testing.T) {
	c := mustNew(t, 2)
	check := func() {
		t.Helper()
		before := c.Held()
		for _, w := range wrongBlocks() {
			refused(t, c, w.Block, w.Data, api.ErrArg)
		}
		checkHeld(t, c, before...)
	}
	check()
	load(t, c, 5, 'a', -1)
	load(t, c, 0, 'b', -1)
	// An argument comes ahead of what is held.
	check()
	refused(t, c, 5, of('c'), api.ErrState)
	checkHeld(t, c, 5, 0)
	ok(t, c.Pin(5))
	ok(t, c.Pin(0))
	check()
	// What is held is told ahead of what is full.
	refused(t, c, 5, of('c'), api.ErrState)
	refused(t, c, 0, of('c'), api.ErrState)
	refused(t, c, 6, of('c'), api.ErrFull)
	checkHeld(t, c, 5, 0)
	if s, held := c.Look(5); s != of('a') || !held {
		t.Error("a Load that was refused has changed the content")
	}
}

func TestLoadEdges(t *testing.T) {
	c := mustNew(t, 2)
	load(t, c, 0, 'a', -1)
	load(t, c, api.MaxBlocks-1, 'b', -1)
	load(t, c, 7, 'c', 0)
	load(t, c, 0, 'd', api.MaxBlocks-1)
	if s, held := c.Look(0); s != of('d') || !held {
		t.Error("Look(0)")
	}
}

// The one of the others that was used the longest time ago is let go.
func TestLetGo(t *testing.T) {
	c := mustNew(t, 4)
	for i := range 4 {
		load(t, c, i, 'a', -1)
	}
	c.Look(0)
	ok(t, c.Pin(1))
	ok(t, c.Store(2, of('b')))
	checkHeld(t, c, 1, 3, 0, 2)
	load(t, c, 10, 'c', 3)
	load(t, c, 11, 'c', 0)
	load(t, c, 12, 'c', 10)
	checkHeld(t, c, 1, 2, 11, 12)
	ok(t, c.Pin(11))
	ok(t, c.Pin(12))
	refused(t, c, 13, of('d'), api.ErrFull)
	ok(t, c.Unpin(1))
	load(t, c, 13, 'd', 1)
	c.Take()
	load(t, c, 14, 'd', 2)
	ok(t, c.Unpin(12))
	// 13 and 14 were used later than 12 was, whose pin is no use of it.
	load(t, c, 15, 'd', 12)
	checkHeld(t, c, 11, 13, 14, 15)
}

// A block that is loaded again begins anew: clean, and without pins.
func TestLoadAnew(t *testing.T) {
	c := mustNew(t, 1)
	load(t, c, 1, 'a', -1)
	ok(t, c.Pin(1))
	ok(t, c.Store(1, of('b')))
	ok(t, c.Unpin(1))
	c.Take()
	load(t, c, 2, 'c', 1)
	load(t, c, 1, 'd', 2)
	if e := c.Unpin(1); e != api.ErrState {
		t.Errorf("Unpin: %v", e)
	}
	checkChanges(t, "Dirty", c.Dirty())
	if s, held := c.Look(1); s != of('d') || !held {
		t.Error("Look(1)")
	}
	if s, held := c.Look(2); s != "" || held {
		t.Error("Look(2)")
	}
}

// 10.2

func TestLook(t *testing.T) {
	c := mustNew(t, 3)
	load(t, c, 4, 'a', -1)
	load(t, c, 2, 'b', -1)
	load(t, c, 9, 'c', -1)
	for _, b := range []int{math.MinInt, -1, 0, 3, api.MaxBlocks, math.MaxInt} {
		if s, held := c.Look(b); s != "" || held {
			t.Errorf("Look(%d): %v", b, held)
		}
	}
	checkHeld(t, c, 4, 2, 9)
	if s, held := c.Look(4); s != of('a') || !held {
		t.Error("Look(4)")
	}
	checkHeld(t, c, 2, 9, 4)
	ok(t, c.Store(2, of('d')))
	checkHeld(t, c, 9, 4, 2)
	if s, held := c.Look(2); s != of('d') || !held {
		t.Error("Look(2)")
	}
}

func TestStoreWrong(t *testing.T) {
	c := mustNew(t, 2)
	load(t, c, 5, 'a', -1)
	load(t, c, 0, 'b', -1)
	for _, w := range wrongBlocks() {
		if e := c.Store(w.Block, w.Data); e != api.ErrArg {
			t.Errorf("Store(%d, %d bytes): %v", w.Block, len(w.Data), e)
		}
	}
	for _, b := range []int{1, 4, 6, api.MaxBlocks - 1} {
		if e := c.Store(b, of('c')); e != api.ErrNone {
			t.Errorf("Store(%d): %v", b, e)
		}
		if e := c.Store(b, "x"); e != api.ErrArg {
			t.Errorf("Store(%d, x): %v", b, e)
		}
	}
	checkHeld(t, c, 5, 0)
	checkChanges(t, "Dirty", c.Dirty())
}

// What is stored is dirty, also if it is the same.
func TestStoreSame(t *testing.T) {
	c := mustNew(t, 1)
	load(t, c, 5, 'a', -1)
	for range 2 {
		ok(t, c.Store(5, of('a')))
		refused(t, c, 6, of('b'), api.ErrFull)
		checkChanges(t, "Dirty", c.Dirty(), change(5, 'a'))
		checkChanges(t, "Take", c.Take(), change(5, 'a'))
		checkChanges(t, "Dirty", c.Dirty())
	}
	load(t, c, 6, 'b', 5)
}

func TestPins(t *testing.T) {
	c := mustNew(t, 2)
	for _, b := range []int{math.MinInt, -1, 0, 5, api.MaxBlocks, math.MaxInt} {
		if c.Pin(b) != api.ErrNone || c.Unpin(b) != api.ErrNone {
			t.Errorf("%d: %v, %v", b, c.Pin(b), c.Unpin(b))
		}
	}
	load(t, c, 5, 'a', -1)
	load(t, c, 6, 'b', -1)
	if e := c.Unpin(5); e != api.ErrState {
		t.Errorf("Unpin: %v", e)
	}
	for range 3 {
		ok(t, c.Pin(5))
	}
	// Neither a pin nor its end is a use.
	checkHeld(t, c, 5, 6)
	load(t, c, 7, 'c', 6)
	ok(t, c.Pin(7))
	for range 3 {
		refused(t, c, 8, of('d'), api.ErrFull)
		ok(t, c.Unpin(5))
	}
	if e := c.Unpin(5); e != api.ErrState {
		t.Errorf("Unpin: %v", e)
	}
	load(t, c, 8, 'd', 5)
	if e := c.Unpin(5); e != api.ErrNone {
		t.Errorf("Unpin: %v", e)
	}
}

// 10.3

func TestTake(t *testing.T) {
	for _, dirty := range []int{0, 1, 47, 48, 49, 64} {
		c := mustNew(t, 64)
		want := []api.Change{}
		for i := range 64 {
			load(t, c, (i*37)%64*16, 'a', -1)
		}
		for i := range dirty {
			b := (dirty - 1 - i) * 16
			ok(t, c.Store(b, of(byte(i))))
			want = append(want, change(b, byte(i)))
		}
		slices.Reverse(want)
		held := c.Held()
		checkChanges(t, "Dirty", c.Dirty(), want...)
		checkChanges(t, "Dirty again", c.Dirty(), want...)
		first := min(dirty, api.MaxChange)
		checkChanges(t, "Take", c.Take(), want[:first]...)
		checkChanges(t, "Dirty", c.Dirty(), want[first:]...)
		checkChanges(t, "Take", c.Take(), want[first:]...)
		checkChanges(t, "Take", c.Take())
		checkChanges(t, "Dirty", c.Dirty())
		// To be taken is no use, and lets nothing go.
		checkHeld(t, c, held...)
		for _, w := range want {
			if s, _ := c.Look(w.Block); s != w.Data {
				t.Errorf("Look(%d) is another one", w.Block)
			}
		}
	}
}

// Pins do not keep a change from being taken, and are kept through it.
func TestTakePinned(t *testing.T) {
	c := mustNew(t, 1)
	load(t, c, 3, 'a', -1)
	ok(t, c.Pin(3))
	ok(t, c.Store(3, of('b')))
	checkChanges(t, "Take", c.Take(), change(3, 'b'))
	refused(t, c, 4, of('c'), api.ErrFull)
	ok(t, c.Unpin(3))
	load(t, c, 4, 'c', 3)
}

func TestNilCache(t *testing.T) {
	for _, c := range []*Cache{nil, {}} {
		refused(t, c, 1, of('a'), api.ErrFull)
		for _, w := range wrongBlocks() {
			refused(t, c, w.Block, w.Data, api.ErrArg)
			if e := c.Store(w.Block, w.Data); e != api.ErrArg {
				t.Errorf("Store(%d): %v", w.Block, e)
			}
		}
		if s, held := c.Look(1); s != "" || held {
			t.Error("Look")
		}
		if c.Store(1, of('a')) != api.ErrNone || c.Pin(1) != api.ErrNone || c.Unpin(1) != api.ErrNone || c.Pin(-1) != api.ErrNone || c.Unpin(-1) != api.ErrNone {
			t.Error("something is held")
		}
		if len(c.Held()) != 0 || len(c.Dirty()) != 0 || len(c.Take()) != 0 {
			t.Error("something is held")
		}
	}
}

// R3

func TestNewMemory(t *testing.T) {
	c := mustNew(t, 64)
	for i := range 60 {
		load(t, c, i, 'a', -1)
		ok(t, c.Store(i, of('b')))
	}
	held, dirty := c.Held(), c.Dirty()
	spoil := func(h []int, l []api.Change) {
		for i := range h[:cap(h)] {
			h[:cap(h)][i] = -7
		}
		for i := range l[:cap(l)] {
			l[:cap(l)][i] = change(99, '?')
		}
	}
	h, l := c.Held(), c.Dirty()
	spoil(h, l)
	checkHeld(t, c, held...)
	checkChanges(t, "Dirty", c.Dirty(), dirty...)
	one, rest := c.Take(), c.Dirty()
	spoil(nil, one)
	checkChanges(t, "Dirty", rest, dirty[48:]...)
	checkChanges(t, "Dirty", c.Dirty(), dirty[48:]...)
	checkHeld(t, c, held...)
}

// The plain cache, by the document's words: a list, the one used the longest time ago first.

type plainBlock struct {
	block, pins int
	dirty       bool
	data        string
}

type plain struct {
	frames int
	list   []plainBlock
}

func (p *plain) find(block int) int {
	return slices.IndexFunc(p.list, func(b plainBlock) bool { return b.block == block })
}

// used puts the i'th one last.
func (p *plain) used(i int) *plainBlock {
	b := p.list[i]
	p.list = append(slices.Delete(p.list, i, i+1), b)
	return &p.list[len(p.list)-1]
}

func (p *plain) load(block int, data string) (int, api.Errno) {
	if block < 0 || block >= api.MaxBlocks || len(data) != api.BlockSize {
		return 0, api.ErrArg
	}
	if p.find(block) >= 0 {
		return 0, api.ErrState
	}
	gone := -1
	if len(p.list) == p.frames {
		i := slices.IndexFunc(p.list, func(b plainBlock) bool { return b.pins == 0 && !b.dirty })
		if i < 0 {
			return 0, api.ErrFull
		}
		gone = p.list[i].block
		p.list = slices.Delete(p.list, i, i+1)
	}
	p.list = append(p.list, plainBlock{block: block, data: data})
	return gone, api.OK
}

func (p *plain) look(block int) (string, bool) {
	i := p.find(block)
	if i < 0 {
		return "", false
	}
	return p.used(i).data, true
}

func (p *plain) store(block int, data string) api.Errno {
	if block < 0 || block >= api.MaxBlocks || len(data) != api.BlockSize {
		return api.ErrArg
	}
	i := p.find(block)
	if i < 0 {
		return api.ErrNone
	}
	b := p.used(i)
	b.data, b.dirty = data, true
	return api.OK
}

func (p *plain) pin(block, by int) api.Errno {
	i := p.find(block)
	if i < 0 {
		return api.ErrNone
	}
	if p.list[i].pins+by < 0 {
		return api.ErrState
	}
	p.list[i].pins += by
	return api.OK
}

func (p *plain) held() []int {
	l := []int{}
	for _, b := range p.list {
		l = append(l, b.block)
	}
	return l
}

func (p *plain) dirty() []api.Change {
	l := []api.Change{}
	for at := range api.MaxBlocks {
		if i := p.find(at); i >= 0 && p.list[i].dirty {
			l = append(l, api.Change{Block: at, Data: p.list[i].data})
		}
	}
	return l
}

func (p *plain) take() []api.Change {
	l := p.dirty()
	l = l[:min(len(l), api.MaxChange)]
	for _, c := range l {
		p.list[p.find(c.Block)].dirty = false
	}
	return l
}

// someData is mostly a block.
func someData(x *source) string {
	if x.next(30) == 0 {
		return of('x')[x.next(2):] + "y"
	}
	return of(byte(x.next(256)))
}

// TestLong: 10.1 to 10.5 in long runs against the plain cache.
func TestLong(t *testing.T) {
	for seed, frames := range []int{1, 2, 3, 5, 8, 16, 33, 63, 64} {
		x := source(seed)
		p := &plain{frames: frames}
		c := mustNew(t, frames)
		// stored are the contents that were stored and not taken yet.
		stored := map[int]string{}
		for range 3000 {
			block := x.next(frames*2+3) - 1
			data := someData(&x)
			switch i := x.next(100); {
			case i < 35:
				n, e := c.Load(block, data)
				if m, f := p.load(block, data); n != m || e != f {
					t.Fatalf("Load(%d): %d, %v; want %d, %v", block, n, e, m, f)
				}
			case i < 50:
				s, held := c.Look(block)
				if r, f := p.look(block); s != r || held != f {
					t.Fatalf("Look(%d): %v; want %v", block, held, f)
				}
			case i < 70:
				e := c.Store(block, data)
				if f := p.store(block, data); e != f {
					t.Fatalf("Store(%d): %v; want %v", block, e, f)
				}
				if e == api.OK {
					stored[block] = data
				}
			case i < 80:
				if e, f := c.Pin(block), p.pin(block, 1); e != f {
					t.Fatalf("Pin(%d): %v; want %v", block, e, f)
				}
			case i < 97:
				if e, f := c.Unpin(block), p.pin(block, -1); e != f {
					t.Fatalf("Unpin(%d): %v; want %v", block, e, f)
				}
			default:
				l := c.Take()
				checkChanges(t, "Take", l, p.take()...)
				for _, y := range l {
					if stored[y.Block] != y.Data {
						t.Fatal("something was taken that was not stored last, or was taken already")
					}
					delete(stored, y.Block)
				}
			}
			checkHeld(t, c, p.held()...)
			l := c.Dirty()
			checkChanges(t, "Dirty", l, p.dirty()...)
			if len(l) != len(stored) || len(c.Held()) > frames {
				t.Fatalf("%d are dirty, of %d that were stored; %d held", len(l), len(stored), len(c.Held()))
			}
		}
	}
}
