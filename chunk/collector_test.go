package chunk

import (
	"slices"
	"strings"
	"testing"

	"cartulary/api"
)

func added(t *testing.T, x *Collector, c Chunk, ok bool, want api.Errno) {
	t.Helper()
	if got, e := x.Add(c); got != ok || e != want {
		t.Fatalf("Add(%d of %d): %v, %v; want %v, %v", c.Number, c.Total, got, e, ok, want)
	}
}

func missing(t *testing.T, x *Collector, want ...int) {
	t.Helper()
	if l := x.Missing(); !slices.Equal(l, want) {
		t.Fatalf("Missing: %v, want %v", l, want)
	}
}

func noBlocks(t *testing.T, x *Collector, want api.Errno) {
	t.Helper()
	if l, e := x.Blocks(); len(l) != 0 || e != want {
		t.Fatalf("Blocks: %d, %v; want %v", len(l), e, want)
	}
}

func hasBlocks(t *testing.T, x *Collector, want []string) {
	t.Helper()
	if l, e := x.Blocks(); !slices.Equal(l, want) || e != api.OK {
		t.Fatalf("Blocks: %d, %v", len(l), e)
	}
}

// forged is a chunk that is right, and says the same of its snapshot, but has other bytes.
func forged(c Chunk) Chunk {
	data := strings.Repeat("f", len(c.Data))
	c.Data, c.Sum = data, plainSum(data)
	return c
}

// empties are collectors without chunks, however they were made.
func empties() []*Collector {
	return []*Collector{New(), {}}
}

// 25.2

func TestNew(t *testing.T) {
	for _, x := range empties() {
		missing(t, x)
		noBlocks(t, x, api.ErrState)
	}
}

func TestNil(t *testing.T) {
	var x *Collector
	for _, c := range rightChunks(t) {
		added(t, x, c, false, api.ErrState)
	}
	for _, c := range wrongChunks(t) {
		added(t, x, c, false, api.ErrForm)
	}
	missing(t, x)
	noBlocks(t, x, api.ErrState)
}

func TestWhole(t *testing.T) {
	for _, n := range sizes() {
		blocks := snapshot(n)
		l := split(t, blocks)
		for _, x := range empties() {
			for i := range l {
				noBlocks(t, x, api.ErrState)
				c := l[len(l)-1-i]
				added(t, x, c, true, api.OK)
				added(t, x, c, false, api.OK)
				want := []int{}
				for k := range len(l) - 1 - i {
					want = append(want, k)
				}
				missing(t, x, want...)
			}
			hasBlocks(t, x, blocks)
			added(t, x, l[0], false, api.OK)
			hasBlocks(t, x, blocks)
		}
	}
}

func TestAddWrong(t *testing.T) {
	for _, c := range wrongChunks(t) {
		for _, x := range empties() {
			// A chunk that is not right is not the first one.
			added(t, x, c, false, api.ErrForm)
			missing(t, x)
			noBlocks(t, x, api.ErrState)
			added(t, x, split(t, snapshot(5))[0], true, api.OK)
			added(t, x, c, false, api.ErrForm)
			hasBlocks(t, x, snapshot(5))
		}
	}
}

func TestAddOther(t *testing.T) {
	blocks := snapshot(20)
	l := split(t, blocks)
	x := New()
	added(t, x, l[1], true, api.OK)
	for _, c := range l {
		for _, d := range []int{1, -1, 1 << 32, -c.Digest, 1 << 62} {
			added(t, x, with(c, func(c *Chunk) { c.Digest += d }), false, api.ErrState)
		}
	}
	// 12 and 28 blocks have a last chunk of four, too; 24 blocks have chunks 0 and 1 alike.
	last := l[2]
	added(t, x, with(last, func(c *Chunk) { c.Total, c.Number = 12, 1 }), false, api.ErrState)
	added(t, x, with(last, func(c *Chunk) { c.Total, c.Number = 28, 3 }), false, api.ErrState)
	added(t, x, with(l[0], func(c *Chunk) { c.Total = 24 }), false, api.ErrState)
	added(t, x, with(l[1], func(c *Chunk) { c.Total = 24 }), false, api.ErrState)
	added(t, x, with(l[0], func(c *Chunk) { c.Total, c.Digest = 24, 0 }), false, api.ErrState)
	// What is not right comes first.
	added(t, x, with(l[0], func(c *Chunk) { c.Digest++; c.Sum++ }), false, api.ErrForm)
	added(t, x, with(l[0], func(c *Chunk) { c.Total = 25; c.Sum-- }), false, api.ErrForm)
	missing(t, x, 0, 2)
	noBlocks(t, x, api.ErrState)
	added(t, x, l[2], true, api.OK)
	added(t, x, l[0], true, api.OK)
	hasBlocks(t, x, blocks)
}

// The first chunk says which snapshot it is, even one whose digest is 0.
func TestFirst(t *testing.T) {
	c := with(split(t, snapshot(9))[1], func(c *Chunk) { c.Digest = 0 })
	x := New()
	added(t, x, c, true, api.OK)
	added(t, x, with(c, func(c *Chunk) { c.Digest = 1 }), false, api.ErrState)
	missing(t, x, 0)
}

// One that is there stays as it is.
func TestStays(t *testing.T) {
	blocks := snapshot(20)
	l := split(t, blocks)
	x := New()
	for _, c := range l {
		added(t, x, c, true, api.OK)
		added(t, x, forged(c), false, api.OK)
	}
	hasBlocks(t, x, blocks)

	y := New()
	added(t, y, forged(l[1]), true, api.OK)
	added(t, y, l[0], true, api.OK)
	noBlocks(t, y, api.ErrState)
	added(t, y, l[2], true, api.OK)
	added(t, y, l[1], false, api.OK)
	missing(t, y)
	noBlocks(t, y, api.ErrSum)
	noBlocks(t, y, api.ErrSum)
}

func TestSum(t *testing.T) {
	for _, n := range sizes() {
		x := New()
		for _, c := range split(t, snapshot(n)) {
			c.Digest += 1 << 32
			added(t, x, c, true, api.OK)
		}
		missing(t, x)
		noBlocks(t, x, api.ErrSum)
	}
	// The same blocks in another order are not the snapshot's.
	l := split(t, snapshot(16))
	x := New()
	added(t, x, with(l[0], func(c *Chunk) { c.Number = 1 }), true, api.OK)
	added(t, x, with(l[1], func(c *Chunk) { c.Number = 0 }), true, api.OK)
	noBlocks(t, x, api.ErrSum)
}

func TestMemory(t *testing.T) {
	blocks := snapshot(30)
	l := split(t, blocks)
	x := New()
	added(t, x, l[2], true, api.OK)
	m := x.Missing()
	clear(m[:cap(m)])
	missing(t, x, 0, 1, 3)
	for _, i := range []int{0, 1, 3} {
		added(t, x, l[i], true, api.OK)
	}
	b, _ := x.Blocks()
	clear(b[:cap(b)])
	hasBlocks(t, x, blocks)
	m = x.Missing()
	clear(m[:cap(m)])
	missing(t, x)
}

// Two collectors have nothing to do with one another.
func TestApart(t *testing.T) {
	l := split(t, snapshot(20))
	x, y := New(), New()
	added(t, x, l[0], true, api.OK)
	missing(t, y)
	added(t, y, split(t, snapshot(11))[1], true, api.OK)
	missing(t, x, 1, 2)
	missing(t, y, 0)
}

// 25.3, 25.4: whatever comes, in whatever order and however often.
func TestRuns(t *testing.T) {
	r := source(25)
	for range 400 {
		blocks := snapshot(1 + r.next(70))
		l := split(t, blocks)
		other := split(t, snapshot(len(blocks)+1))
		x := New()
		there := make([]bool, len(l))
		begun := false
		for left := len(l); left > 0; {
			switch r.next(6) {
			case 0:
				c := other[r.next(len(other))]
				if begun {
					added(t, x, c, false, api.ErrState)
				}
			case 1:
				added(t, x, with(l[r.next(len(l))], func(c *Chunk) { c.Sum ^= 1 << r.next(32) }), false, api.ErrForm)
			default:
				i := r.next(len(l))
				added(t, x, l[i], !there[i], api.OK)
				if !there[i] {
					there[i], left = true, left-1
				}
				begun = true
			}
			want := []int{}
			for i := range there {
				if begun && !there[i] {
					want = append(want, i)
				}
			}
			missing(t, x, want...)
			if left > 0 {
				noBlocks(t, x, api.ErrState)
			}
		}
		hasBlocks(t, x, blocks)
	}
}

// 25.3: chunks that are right, but of mixed snapshots, never make blocks that are no snapshot's.
func TestForged(t *testing.T) {
	r := source(253)
	for range 300 {
		blocks := snapshot(1 + r.next(40))
		l := split(t, blocks)
		x := New()
		whole := true
		for _, c := range l {
			if r.next(8) == 0 {
				c, whole = forged(c), false
			}
			added(t, x, c, true, api.OK)
		}
		if whole {
			hasBlocks(t, x, blocks)
		} else {
			noBlocks(t, x, api.ErrSum)
		}
	}
}
