package fsck

import (
	"strings"

	"cartulary/api"
	"cartulary/file"
	"cartulary/inode"
	"cartulary/shape"
)

const (
	// noBlock stands where no block is named.
	noBlock = 0

	blockNames  = 64
	firstSingle = 6
	firstDouble = firstSingle + blockNames

	slotBytes = 32
	lengthAt  = 2
	nameAt    = 3
)

// disk is the blocks that are looked at.
type disk struct {
	regions shape.Regions
	inodes  int
	blocks  []string
	view    *file.View
}

// mark is where a block is named: which one, how many levels of blocks are below it (0: it is a file's own), and for which index it is the first.
type mark struct{ block, levels, first int }

// slot is a name in a directory, and its inode.
type slot struct {
	name  string
	inode int
}

// inode is an inode whose bytes are one.
func (d *disk) inode(i int) api.Inode {
	n, _ := d.view.Inode(i)
	return n
}

// used tells each inode that is not free, and its number.
func (d *disk) used(yield func(int, api.Inode) bool) {
	for i := range d.inodes {
		if n := d.inode(i); n.Kind != api.KindFree && !yield(i, n) {
			return
		}
	}
}

// marks tells all blocks that an inode names, and those that they name, its own ones by rising indices.
func (d *disk) marks(n api.Inode) func(func(mark) bool) {
	list := []mark{}
	for index, b := range n.Direct {
		list = append(list, mark{block: b, first: index})
	}
	list = append(list, mark{n.Single, 1, firstSingle}, mark{n.Double, 2, firstDouble})
	return func(yield func(mark) bool) { d.tell(list, yield) }
}

// tell tells the marks of a list that name a block, and what those name; false, if no more is asked for.
func (d *disk) tell(list []mark, yield func(mark) bool) bool {
	for _, m := range list {
		if m.block != noBlock && (!yield(m) || !d.tell(d.names(m), yield)) {
			return false
		}
	}
	return true
}

// names are the marks in a block of names; a block that is none of data has none.
func (d *disk) names(m mark) []mark {
	list := []mark{}
	if m.levels == 0 || !d.isData(m.block) {
		return list
	}
	step := 1
	if m.levels > 1 {
		step = blockNames
	}
	for k := range blockNames {
		b, _ := inode.Name(d.blocks[m.block], k)
		list = append(list, mark{b, m.levels - 1, m.first + k*step})
	}
	return list
}

// own tells an inode's own blocks, by rising indices.
func (d *disk) own(n api.Inode) func(func(mark) bool) {
	return func(yield func(mark) bool) {
		for m := range d.marks(n) {
			if m.levels == 0 && !yield(m) {
				return
			}
		}
	}
}

// content are the bytes of an inode's own blocks, one behind the other.
func (d *disk) content(n api.Inode) string {
	out := strings.Builder{}
	for m := range d.own(n) {
		out.WriteString(d.blocks[m.block])
	}
	return out.String()
}

// slots are a directory's slots that are not free; anything else has none.
func (d *disk) slots(n api.Inode) []slot {
	list := []slot{}
	if n.Kind != api.KindDir {
		return list
	}
	for rest := d.content(n)[:n.Size]; rest != ""; rest = rest[slotBytes:] {
		if raw := rest[:slotBytes]; !isZero(raw) {
			list = append(list, slot{nameIn(raw), numberIn(raw)})
		}
	}
	return list
}

// numberIn is the inode's number in a slot.
func numberIn(raw string) int {
	return int(raw[0]) | int(raw[1])<<8
}

// nameIn is the name in a slot whose length is that of one.
func nameIn(raw string) string {
	return raw[nameAt : nameAt+int(raw[lengthAt])]
}

func (d *disk) isData(b int) bool {
	return d.regions.Data <= b && b < d.regions.Data+d.regions.Count
}

func isZero(s string) bool {
	return strings.Trim(s, "\x00") == ""
}
