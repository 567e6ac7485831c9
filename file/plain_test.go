package file

import (
	"bytes"
	"slices"
	"strings"

	"cartulary/api"
)

// plain is a view by the document's words: bytes of blocks, of which a copy is laid back where a call tells an error. It knows by itself how bytes are laid out, and calls no layer.
type plain struct {
	shape               api.Shape
	bitmap, table, data int
	first, now          [][]byte
}

// mark is where a number of two bytes stands.
type mark struct{ block, off int }

func newPlain(s api.Shape, blocks []string) *plain {
	p := &plain{shape: s, bitmap: 1 + s.Journal, table: 2 + s.Journal, data: 2 + s.Journal + (s.Inodes+3)/4}
	for _, b := range blocks {
		p.first = append(p.first, []byte(b))
		p.now = append(p.now, []byte(b))
	}
	return p
}

func (p *plain) changes() []api.Change {
	l := []api.Change{}
	for i := range p.now {
		if !bytes.Equal(p.now[i], p.first[i]) {
			l = append(l, api.Change{Block: i, Data: string(p.now[i])})
		}
	}
	return l
}

func (p *plain) blocks() []string {
	l := []string{}
	for _, b := range p.now {
		l = append(l, string(b))
	}
	return l
}

func (p *plain) free() int {
	n := 0
	for b := p.data; b < p.shape.Blocks; b++ {
		if !p.taken(b) {
			n++
		}
	}
	return n
}

func (p *plain) taken(b int) bool {
	return p.now[p.bitmap][b/8]>>(b%8)&1 == 1
}

func (p *plain) flip(b int) {
	p.now[p.bitmap][b/8] ^= 1 << (b % 8)
}

func (p *plain) raw(i int) []byte {
	return p.now[p.table+i/4][32*(i%4) : 32*(i%4)+32]
}

func (p *plain) num(m mark) int {
	return int(p.now[m.block][m.off]) + 256*int(p.now[m.block][m.off+1])
}

func (p *plain) setNum(m mark, n int) {
	p.now[m.block][m.off], p.now[m.block][m.off+1] = byte(n%256), byte(n/256)
}

func (p *plain) inode(i int) (api.Inode, api.Errno) {
	if i < 0 || i >= p.shape.Inodes {
		return api.Inode{}, api.ErrNone
	}
	b := p.raw(i)
	n := api.Inode{Kind: int(b[0]), Links: int(b[1]), Size: int(b[2]) + int(b[3])<<8 + int(b[4])<<16 + int(b[5])<<24}
	for k := range 6 {
		n.Direct[k] = int(b[6+2*k]) + 256*int(b[7+2*k])
	}
	n.Single, n.Double = int(b[18])+256*int(b[19]), int(b[20])+256*int(b[21])
	if !right(n) || strings.Trim(string(b[22:]), "\x00") != "" {
		return api.Inode{}, api.ErrInode
	}
	return n, api.OK
}

func right(n api.Inode) bool {
	if n == (api.Inode{}) {
		return true
	}
	for _, b := range append(n.Direct[:], n.Single, n.Double) {
		if b < 0 || b > 1023 {
			return false
		}
	}
	links := n.Kind == 1 && n.Links >= 1 && n.Links <= 100 || n.Kind == 2 && n.Links == 1
	return links && n.Size >= 0 && n.Size <= 533248
}

func (p *plain) set(i int, n api.Inode) api.Errno {
	if !right(n) {
		return api.ErrInode
	}
	if i < 0 || i >= p.shape.Inodes {
		return api.ErrNone
	}
	p.lay(i, n)
	return api.OK
}

func (p *plain) lay(i int, n api.Inode) {
	b := p.raw(i)
	clear(b)
	b[0], b[1] = byte(n.Kind), byte(n.Links)
	p.setSize(i, n.Size)
	for k, x := range append(n.Direct[:], n.Single, n.Double) {
		b[6+2*k], b[7+2*k] = byte(x%256), byte(x/256)
	}
}

func (p *plain) setSize(i, size int) {
	b := p.raw(i)
	b[2], b[3], b[4], b[5] = byte(size), byte(size>>8), byte(size>>16), byte(size>>24)
}

// own is the mark of the k'th number of an inode: six direct ones, 6 the single, 7 the double.
func (p *plain) own(i, k int) mark {
	return mark{p.table + i/4, 32*(i%4) + 6 + 2*k}
}

// to is the data block whose number stands at a mark, or 0.
func (p *plain) to(m mark) int {
	if b := p.num(m); b >= p.data && b < p.shape.Blocks {
		return b
	}
	return 0
}

// marks are those by which an index is named. The last that can be told: behind one that names none there is no other.
func (p *plain) marks(i, index int) []mark {
	l, rest := []mark{}, []int{}
	switch {
	case index < 6:
		l = append(l, p.own(i, index))
	case index < 70:
		l, rest = append(l, p.own(i, 6)), append(rest, index-6)
	default:
		l, rest = append(l, p.own(i, 7)), append(rest, (index-70)/64, (index-70)%64)
	}
	for _, k := range rest {
		b := p.to(l[len(l)-1])
		if b == 0 {
			break
		}
		l = append(l, mark{b, 2 * k})
	}
	return l
}

func depth(index int) int {
	if index < 6 {
		return 1
	}
	if index < 70 {
		return 2
	}
	return 3
}

func (p *plain) at(i, index int) int {
	l := p.marks(i, index)
	if len(l) < depth(index) {
		return 0
	}
	return p.to(l[len(l)-1])
}

// used tells what is wrong with an inode that is to be read, written or cut.
func (p *plain) used(i int) api.Errno {
	n, e := p.inode(i)
	if e == api.OK && n.Kind == 0 {
		return api.ErrState
	}
	return e
}

func (p *plain) read(i, at, many int) (string, api.Errno) {
	if at < 0 || many < 0 || many > 1024 {
		return "", api.ErrArg
	}
	if e := p.used(i); e != api.OK {
		return "", e
	}
	n, _ := p.inode(i)
	out := []byte{}
	for k := range many {
		if at >= n.Size || k >= n.Size-at {
			break
		}
		if b := p.at(i, (at+k)/128); b != 0 {
			out = append(out, p.now[b][(at+k)%128])
		} else {
			out = append(out, 0)
		}
	}
	return string(out), api.OK
}

// build makes a block that is named at a mark; 0, if none can be made.
func (p *plain) build(m mark) int {
	for b := p.data; b < p.shape.Blocks; b++ {
		if !p.taken(b) {
			p.flip(b)
			clear(p.now[b])
			p.setNum(m, b)
			return b
		}
	}
	return 0
}

func (p *plain) write(i, at int, data string) api.Errno {
	if at < 0 || len(data) > 1024 {
		return api.ErrArg
	}
	if e := p.used(i); e != api.OK {
		return e
	}
	if data == "" {
		return api.OK
	}
	if at > 533248-len(data) {
		return api.TooBig
	}
	kept := [][]byte{}
	for _, b := range p.now {
		kept = append(kept, slices.Clone(b))
	}
	b := 0
	for k := range len(data) {
		if k == 0 || (at+k)%128 == 0 {
			b = p.have(i, (at+k)/128)
		}
		if b == 0 {
			p.now = kept
			return api.NoSpace
		}
		p.now[b][(at+k)%128] = data[k]
	}
	if n, _ := p.inode(i); n.Size < at+len(data) {
		p.setSize(i, at+len(data))
	}
	return api.OK
}

// have is an index's block, for which what is wanted is made: what names it, then it.
func (p *plain) have(i, index int) int {
	if b := p.at(i, index); b != 0 {
		return b
	}
	for {
		l := p.marks(i, index)
		b := p.build(l[len(l)-1])
		if b == 0 || len(l) == depth(index) {
			return b
		}
	}
}

// drop lets go of the block that is named at a mark.
func (p *plain) drop(m mark) {
	b := p.to(m)
	if p.taken(b) {
		p.flip(b)
	}
	p.setNum(m, 0)
}

// bare tells whether the block that is named at a mark is there and names none.
func (p *plain) bare(m mark) bool {
	b := p.to(m)
	if b == 0 {
		return false
	}
	for k := range 64 {
		if p.to(mark{b, 2 * k}) != 0 {
			return false
		}
	}
	return true
}

func (p *plain) cut(i, size int) api.Errno {
	if size < 0 || size > 533248 {
		return api.ErrArg
	}
	if e := p.used(i); e != api.OK {
		return e
	}
	for index := range 4166 {
		if index*128 >= size && p.at(i, index) != 0 {
			l := p.marks(i, index)
			p.drop(l[len(l)-1])
		}
	}
	l := []mark{}
	if d := p.to(p.own(i, 7)); d != 0 {
		for k := range 64 {
			l = append(l, mark{d, 2 * k})
		}
	}
	for _, m := range append(l, p.own(i, 6), p.own(i, 7)) {
		if p.bare(m) {
			p.drop(m)
		}
	}
	if size%128 != 0 {
		if b := p.at(i, size/128); b != 0 {
			clear(p.now[b][size%128:])
		}
	}
	p.setSize(i, size)
	return api.OK
}

// blocksOf are all blocks of an inode: those of its indices, and those that name.
func (p *plain) blocksOf(i int) []int {
	l := []int{}
	for index := range 4166 {
		if b := p.at(i, index); b != 0 {
			l = append(l, b)
		}
	}
	for k := range 2 {
		if b := p.to(p.own(i, 6+k)); b != 0 {
			l = append(l, b)
		}
	}
	if d := p.to(p.own(i, 7)); d != 0 {
		for k := range 64 {
			if b := p.to(mark{d, 2 * k}); b != 0 {
				l = append(l, b)
			}
		}
	}
	return l
}
