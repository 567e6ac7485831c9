package file

import (
	"strings"

	"cartulary/api"
	"cartulary/bitmap"
	"cartulary/inode"
)

const (
	blockNames = 64

	// noBlock is the superblock's number: no data block has it.
	noBlock = 0
	// itself stands where a block of names would have its number, if it is the inode that names.
	itself = noBlock
)

// The places of an inode that stand behind Direct's.
const (
	single = 6
	double = 7
)

// spot is where a block is named: at which place of the inode itself, or of a block of names.
type spot struct{ in, place int }

// way is how the block of an index is come to: by its first places, the first one the inode's, each other one that of the block which is named ahead.
type way struct {
	places [3]int
	many   int
}

func wayTo(index int) way {
	level, first, second, _ := inode.Place(index)
	ways := [...]way{
		{[3]int{first}, 1},
		{[3]int{single, first}, 2},
		{[3]int{double, first, second}, 3},
	}
	return ways[level]
}

// naming are the places at which blocks of names are named, and last is where the index's own block is.
func (w *way) naming() []int { return w.places[:w.many-1] }
func (w *way) last() int     { return w.places[w.many-1] }

// spotOf is where the block of an index is named; false, if a block that names is none.
func (v *View) spotOf(n api.Inode, index int) (spot, bool) {
	w := wayTo(index)
	in := itself
	for _, place := range w.naming() {
		in = v.named(n, spot{in, place})
		if in == noBlock {
			return spot{}, false
		}
	}
	return spot{in, w.last()}, true
}

func (v *View) blockOf(n api.Inode, index int) int {
	s, there := v.spotOf(n, index)
	if !there {
		return noBlock
	}
	return v.named(n, s)
}

// named is the data block that is named there, or noBlock.
func (v *View) named(n api.Inode, s spot) int {
	b := noBlock
	if s.in == itself {
		b = *number(&n, s.place)
	} else {
		b, _ = inode.Name(v.block(s.in), s.place)
	}
	if b < v.regions.Data || b >= v.end() {
		return noBlock
	}
	return b
}

// name has b be named there.
func (v *View) name(n *api.Inode, s spot, b int) {
	if s.in == itself {
		*number(n, s.place) = b
		return
	}
	names, _ := inode.Rename(v.block(s.in), s.place, b)
	v.change(s.in, names)
}

// number is what stands at a place of an inode.
func number(n *api.Inode, place int) *int {
	switch place {
	case single:
		return &n.Single
	case double:
		return &n.Double
	}
	return &n.Direct[place]
}

// end is the number behind the last data block's.
func (v *View) end() int {
	return v.regions.Data + v.regions.Count
}

// bytes are a file's from one place on, up to another one.
func (v *View) bytes(n api.Inode, from, to int) string {
	out := strings.Builder{}
	for from < to {
		data := zeros(api.BlockSize)
		if b := v.blockOf(n, from/api.BlockSize); b != noBlock {
			data = v.block(b)
		}
		first := from % api.BlockSize
		end := min(api.BlockSize, first+to-from)
		out.WriteString(data[first:end])
		from += end - first
	}
	return out.String()
}

// lay has data stand from a place on. What it did ahead of an error stays.
func (v *View) lay(n *api.Inode, at int, data string) api.Errno {
	n.Size = max(n.Size, at+len(data))
	for data != "" {
		b, e := v.reach(n, at/api.BlockSize)
		if e != api.OK {
			return e
		}
		bytes := []byte(v.block(b))
		laid := copy(bytes[at%api.BlockSize:], data)
		v.change(b, string(bytes))
		at += laid
		data = data[laid:]
	}
	return api.OK
}

// reach is the block of an index, which is made where there is none, behind those that name it.
func (v *View) reach(n *api.Inode, index int) (int, api.Errno) {
	if b := v.blockOf(*n, index); b != noBlock {
		return b, api.OK
	}
	w := wayTo(index)
	in := itself
	for _, place := range w.naming() {
		s, e := spot{in, place}, api.OK
		if in = v.named(*n, s); in == noBlock {
			in, e = v.makeAt(n, s)
		}
		if e != api.OK {
			return 0, e
		}
	}
	return v.makeAt(n, spot{in, w.last()})
}

// makeAt makes a block that is named there.
func (v *View) makeAt(n *api.Inode, s spot) (int, api.Errno) {
	b, e := bitmap.Least(v.block(v.regions.Bitmap), v.regions.Data, v.end())
	if e != api.OK {
		return 0, api.NoSpace
	}
	v.take(b, true)
	v.change(b, zeros(api.BlockSize))
	v.name(n, s, b)
	return b, api.OK
}

func (v *View) take(b int, taken bool) {
	bits, _ := bitmap.Set(v.block(v.regions.Bitmap), b, taken)
	v.change(v.regions.Bitmap, bits)
}

// letGo lets go of the block that is named there, if there is one.
func (v *View) letGo(n *api.Inode, s spot) {
	if b := v.named(*n, s); b != noBlock {
		v.take(b, false)
		v.name(n, s, noBlock)
	}
}

// letGoFrom lets go of the blocks of which no byte is below size.
func (v *View) letGoFrom(n *api.Inode, size int) {
	first := (size + api.BlockSize - 1) / api.BlockSize
	for index := first; index < inode.MaxIndex; index++ {
		if s, there := v.spotOf(*n, index); there {
			v.letGo(n, s)
		}
	}
}

// letGoNamers lets go of the blocks that name none. Those that Double's block names come first, since it may name none then.
func (v *View) letGoNamers(n *api.Inode) {
	if in := v.named(*n, spot{itself, double}); in != noBlock {
		for place := range blockNames {
			v.letGoIdle(n, spot{in, place})
		}
	}
	for _, place := range [...]int{single, double} {
		v.letGoIdle(n, spot{itself, place})
	}
}

// letGoIdle lets go of the block of names that is named there, if it names none.
func (v *View) letGoIdle(n *api.Inode, s spot) {
	in := v.named(*n, s)
	if in == noBlock {
		return
	}
	for place := range blockNames {
		if v.named(*n, spot{in, place}) != noBlock {
			return
		}
	}
	v.letGo(n, s)
}

// blank has the bytes from size on be 0, in the block in which size lies.
func (v *View) blank(n api.Inode, size int) {
	stay := size % api.BlockSize
	if stay == 0 {
		return
	}
	if b := v.blockOf(n, size/api.BlockSize); b != noBlock {
		v.change(b, v.block(b)[:stay]+zeros(api.BlockSize-stay))
	}
}

func zeros(many int) string {
	return string(make([]byte, many))
}
