package file

import (
	"testing"

	"cartulary/api"
)

// answer is what a call of a kind told.
type answer struct {
	kind string
	e    api.Errno
}

// checkSeen tells of answers that a run should have come upon.
func checkSeen(t *testing.T, seen map[answer]int, kind string, list ...api.Errno) {
	t.Helper()
	for _, e := range list {
		if seen[answer{kind, e}] == 0 {
			t.Errorf("%s never told %v: %v", kind, e, seen)
		}
	}
}

// indexOf chooses an index, most often near the edge of a level.
func (s *source) indexOf() int {
	edges := []int{0, 0, 0, 4, 6, 6, 67, 70, 72, 132, 134, 4160}
	return edges[s.next(len(edges))] + s.next(6)
}

// sizeOf chooses a place in a file, or a size, most often near an edge.
func (s *source) sizeOf() int {
	at := 128*s.indexOf() + []int{0, 1, 64, 127, s.next(128)}[s.next(5)]
	return min(at, 533248)
}

func (s *source) lengthOf() int {
	return []int{0, 1, 2, 127, 128, 129, 1024, s.next(300), s.next(1024)}[s.next(9)]
}

// content is what a file should hold by all that was written and cut: bytes that are not there are 0.
type content struct {
	size  int
	bytes map[int]byte
}

func (c *content) write(at int, data string) {
	for k := range len(data) {
		c.bytes[at+k] = data[k]
	}
	if data != "" {
		c.size = max(c.size, at+len(data))
	}
}

func (c *content) cut(size int) {
	for at := range c.bytes {
		if at >= size {
			delete(c.bytes, at)
		}
	}
	c.size = size
}

func (c *content) read(at, many int) string {
	out := []byte{}
	for k := at; k < c.size && k < at+many; k++ {
		out = append(out, c.bytes[k])
	}
	return string(out)
}

// step does something to an inode and its content.
func (x pair) step(r *source, i int, c *content, seen map[answer]int) {
	x.t.Helper()
	switch r.next(8) {
	case 0, 1, 2, 3:
		at, data := r.sizeOf(), r.text(r.lengthOf())
		want := x.wouldWrite(i, at, data)
		x.write(i, at, data, want)
		seen[answer{"Write", want}]++
		if want == api.OK {
			c.write(at, data)
		}
	case 4, 5:
		size := r.sizeOf()
		if r.next(4) == 0 {
			size = 0
		}
		x.cut(i, size, api.OK)
		c.cut(size)
		seen[answer{"Cut", api.OK}]++
	case 6:
		at, many := r.sizeOf(), r.lengthOf()
		x.read(i, at, many, c.read(at, many), api.OK)
		seen[answer{"Read", api.OK}]++
	case 7:
		index := min(r.indexOf(), 4165)
		x.at(i, index, x.p.at(i, index), api.OK)
	}
}

// wouldWrite is what a write should tell, by how many blocks are not there yet.
func (x pair) wouldWrite(i, at int, data string) api.Errno {
	if data == "" {
		return api.OK
	}
	if at+len(data) > 533248 {
		return api.TooBig
	}
	wanted := map[int]int{} // what is to be made: an index from 0 on; -1 Single's; -2 Double's; -3 and less those that it names
	for index := at / 128; index <= (at+len(data)-1)/128; index++ {
		l := x.p.marks(i, index)
		if x.p.at(i, index) == 0 {
			wanted[index]++
		}
		if index >= 6 && index < 70 && len(l) == 1 {
			wanted[-1]++
		}
		if index >= 70 && len(l) == 1 {
			wanted[-2]++
		}
		if index >= 70 && len(l) <= 2 {
			wanted[-3-(index-70)/64]++
		}
	}
	if len(wanted) > x.p.free() {
		return api.NoSpace
	}
	return api.OK
}

// owned looks at 15.5: each block is named once at most, and taken just if it is.
func (x pair) owned() {
	x.t.Helper()
	owner := map[int]int{}
	for i := range x.p.shape.Inodes {
		for _, b := range x.p.blocksOf(i) {
			owner[b]++
		}
	}
	for b := x.p.data; b < x.p.shape.Blocks; b++ {
		if owner[b] > 1 || (owner[b] == 1) != x.p.taken(b) {
			x.t.Fatalf("block %d is named %d times, taken: %v", b, owner[b], x.p.taken(b))
		}
	}
}

// 15.3 to 15.5: long runs: what was written is read, no block is of two files, and cut to 0 all are free again.
func TestRun(t *testing.T) {
	seen := map[answer]int{}
	for seed, s := range []api.Shape{with(4), with(9), few(), with(40), with(90), many()} {
		for round := range 4 {
			r := &source{uint32(17*seed + round)}
			x := files(t, s)
			contents := []*content{}
			for range 3 {
				contents = append(contents, &content{bytes: map[int]byte{}})
			}
			free := x.v.Free()
			for step := range 250 {
				i := r.next(3)
				x.step(r, i, contents[i], seen)
				if step%25 == 0 {
					x.owned()
				}
			}
			for i := range 3 {
				x.cut(i, 0, api.OK)
				if l := x.p.blocksOf(i); len(l) != 0 {
					t.Errorf("cut to 0 it has blocks %v", l)
				}
				if n, _ := x.v.Inode(i); n != (api.Inode{Kind: n.Kind, Links: 1}) {
					t.Errorf("cut to 0 it is %v", n)
				}
			}
			x.free(free)
		}
	}
	checkSeen(t, seen, "Write", api.OK, api.NoSpace, api.TooBig)
	checkSeen(t, seen, "Cut", api.OK)
	checkSeen(t, seen, "Read", api.OK)
}

// number chooses what stands where a block is named: a data block most often, none, or any number.
func (p *plain) number(r *source, most int) int {
	switch r.next(6) {
	case 0, 1:
		return 0
	case 2:
		return r.next(most)
	}
	return p.data + r.next(p.shape.Blocks-p.data)
}

// garbage are blocks of which each names what it will, itself too, and inodes of which some are right.
func garbage(r *source, s api.Shape) []string {
	p := newPlain(s, zero(s))
	for b := range p.now {
		switch r.next(4) {
		case 0:
			copy(p.now[b], r.text(128))
		case 1, 2:
			for k := range 64 {
				if r.next(3) == 0 {
					p.setNum(mark{b, 2 * k}, p.number(r, 1<<16))
				}
			}
		}
	}
	for i := range s.Inodes {
		n := api.Inode{Kind: 1 + r.next(2), Links: 1, Size: r.sizeOf()}
		for k := range n.Direct {
			n.Direct[k] = p.number(r, 1024)
		}
		n.Single, n.Double = p.number(r, 1024), p.number(r, 1024)
		switch r.next(8) {
		case 0:
		case 1:
			p.lay(i, api.Inode{})
		default:
			p.lay(i, n)
		}
	}
	return p.blocks()
}

// P1, 15.2 to 15.4: whatever the blocks hold, every call ends and tells what the words say, one thing behind the other.
func TestGarbage(t *testing.T) {
	seen := map[answer]int{}
	for seed := range 300 {
		r := &source{uint32(seed)}
		s := []api.Shape{with(4), few(), with(30), {Blocks: 16, Journal: 8, Inodes: 8}}[seed%4]
		x := newPair(t, s, garbage(r, s))
		for range 20 {
			i := r.next(s.Inodes+2) - 1
			size, length, index := r.sizeOf(), r.lengthOf(), min(r.indexOf(), 4165)
			data := r.text(length)
			if r.next(3) == 0 { // data that names blocks, where a file's block is one of names
				data = namesOf(x.p, r, length)
			}
			got, e := x.v.Read(i, size, length)
			want, wantE := x.p.read(i, size, length)
			if got != want || e != wantE {
				t.Fatalf("Read(%d, %d, %d): %q, %v, want %q, %v", i, size, length, got, e, want, wantE)
			}
			seen[answer{"Read", e}]++
			if _, e := x.p.inode(i); e == api.OK {
				x.at(i, index, x.p.at(i, index), api.OK)
			} else {
				x.at(i, index, 0, e)
			}
			switch r.next(3) {
			case 0:
				e, wantE = x.v.Cut(i, size), x.p.cut(i, size)
				seen[answer{"Cut", e}]++
			default:
				e, wantE = x.v.Write(i, size, data), x.p.write(i, size, data)
				seen[answer{"Write", e}]++
			}
			if e != wantE {
				t.Fatalf("seed %d: inode %d, %d, %d bytes: %v, want %v", seed, i, size, length, e, wantE)
			}
			x.same(seed, i, size, length)
		}
	}
	checkSeen(t, seen, "Read", api.OK, api.ErrNone, api.ErrInode, api.ErrState)
	checkSeen(t, seen, "Cut", api.OK, api.ErrNone, api.ErrInode, api.ErrState)
	checkSeen(t, seen, "Write", api.OK, api.ErrNone, api.ErrInode, api.ErrState, api.NoSpace, api.TooBig)
}

// namesOf are bytes of numbers of blocks.
func namesOf(p *plain, r *source, many int) string {
	out := []byte{}
	for len(out) < many {
		n := p.number(r, 1<<16)
		out = append(out, byte(n), byte(n>>8))
	}
	return string(out[:many])
}
