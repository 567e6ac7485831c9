package model

import (
	"maps"
	"slices"
	"strings"

	"cartulary/api"
)

const (
	slotBytes  = 32
	blockSlots = api.BlockSize / slotBytes

	firstLinks = 1
	nowhere    = -1
)

// block are a block's bytes.
type block [api.BlockSize]byte

// slot is a name and its inode; one that is free has none.
type slot struct {
	name  string
	inode int
}

// node is an inode: blocks and size are a file's, slots a directory's.
type node struct {
	kind, links, size int
	blocks            map[int]block
	slots             []slot
}

func newFile() node {
	return node{kind: api.KindFile, links: firstLinks, blocks: map[int]block{}}
}

func newDir() node {
	return node{kind: api.KindDir, links: firstLinks}
}

func (s slot) free() bool {
	return s == slot{}
}

func (n *node) isDir() bool {
	return n.kind == api.KindDir
}

// length is its Size.
func (n *node) length() int {
	if n.isDir() {
		return slotBytes * len(n.slots)
	}
	return n.size
}

// indices are those that have a block, rising.
func (n *node) indices() []int {
	if n.isDir() {
		return indicesOf(len(n.slots))
	}
	return slices.Sorted(maps.Keys(n.blocks))
}

// indicesOf are those of a directory of so many slots.
func indicesOf(slots int) []int {
	list := make([]int, (slots+blockSlots-1)/blockSlots)
	for i := range list {
		list[i] = i
	}
	return list
}

// indicesWith are those of a file that has the blocks from first to last too.
func (n *node) indicesWith(first, last int) []int {
	list := n.indices()
	for index := first; index <= last; index++ {
		if _, there := n.blocks[index]; !there {
			list = append(list, index)
		}
	}
	slices.Sort(list)
	return list
}

// content are the bytes of a file's blocks, one behind the other.
func (n *node) content() string {
	out := strings.Builder{}
	for _, index := range slices.Sorted(maps.Keys(n.blocks)) {
		b := n.blocks[index]
		out.Write(b[:])
	}
	return out.String()
}

// bytes are a file's from one place on, up to another one.
func (n *node) bytes(from, to int) string {
	out := strings.Builder{}
	for from < to {
		// Where there is no block, the map's answer is what the document asks for: bytes 0.
		b := n.blocks[from/api.BlockSize]
		first := from % api.BlockSize
		end := min(api.BlockSize, first+to-from)
		out.Write(b[first:end])
		from += end - first
	}
	return out.String()
}

// lay has data stand from a place on.
func (n *node) lay(at int, data string) {
	n.size = max(n.size, at+len(data))
	for data != "" {
		b := n.blocks[at/api.BlockSize]
		laid := copy(b[at%api.BlockSize:], data)
		n.blocks[at/api.BlockSize] = b
		at += laid
		data = data[laid:]
	}
}

// cut has a file end, or grow, at that size.
func (n *node) cut(size int) {
	n.size = size
	maps.DeleteFunc(n.blocks, func(index int, _ block) bool { return index*api.BlockSize >= size })
	last := size / api.BlockSize
	if b, there := n.blocks[last]; there {
		clear(b[size%api.BlockSize:])
		n.blocks[last] = b
	}
}

// slotOf is the slot that has a name, or nowhere.
func (n *node) slotOf(name string) int {
	return slices.IndexFunc(n.slots, func(s slot) bool { return s.name == name })
}

// freeSlot is the least that is free, or nowhere.
func (n *node) freeSlot() int {
	return slices.IndexFunc(n.slots, slot.free)
}

// put has a slot stand in a directory.
func (n *node) put(s slot) {
	at := n.freeSlot()
	if at == nowhere {
		n.slots = append(n.slots, s)
		return
	}
	n.slots[at] = s
}

// take has the slot of a name be free.
func (n *node) take(name string) {
	n.slots[n.slotOf(name)] = slot{}
}

// isEmpty tells whether all slots of a directory are free.
func (n *node) isEmpty() bool {
	return !slices.ContainsFunc(n.slots, func(s slot) bool { return !s.free() })
}
