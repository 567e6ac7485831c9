package fs

import (
	"slices"

	"cartulary/api"
	"cartulary/dir"
	"cartulary/file"
	"cartulary/shape"
)

const byteBits = 8

// tree is a file system's blocks while an operation is done to them.
type tree struct {
	view    *file.View
	regions shape.Regions
	inodes  int
	// bits is the bitmap as it was at first.
	bits string
	// idle are the blocks that a cut changed and let go.
	idle []int
}

// node is an inode that is not free, and its number.
type node struct {
	api.Inode
	at int
}

func (n node) isDir() bool {
	return n.Kind == api.KindDir
}

// nodeAt is an inode that must be there: the root, or what a slot names.
func (t *tree) nodeAt(at int) (node, api.Errno) {
	n, e := t.view.Inode(at)
	if e != api.OK || n.Kind == api.KindFree {
		return node{}, api.ErrTree
	}
	return node{n, at}, api.OK
}

// find is the inode to which names lead from the root.
func (t *tree) find(names []string) (node, api.Errno) {
	n, e := t.nodeAt(root)
	for _, name := range names {
		if e != api.OK {
			break
		}
		n, e = t.step(n, name)
	}
	return n, e
}

// step is the inode to which a name leads from another one.
func (t *tree) step(from node, name string) (node, api.Errno) {
	if !from.isDir() {
		return node{}, api.NotDir
	}
	at, e := dir.Find(t.view, from.at, name)
	if e != api.OK {
		return node{}, e
	}
	return t.nodeAt(at)
}

func (t *tree) findFile(names []string) (node, api.Errno) {
	n, e := t.find(names)
	if e == api.OK && n.isDir() {
		return node{}, api.IsDir
	}
	return n, e
}

func (t *tree) findDir(names []string) (node, api.Errno) {
	n, e := t.find(names)
	if e == api.OK && !n.isDir() {
		return node{}, api.NotDir
	}
	return n, e
}

// parent is the directory of the last of names, of which there is one.
func (t *tree) parent(names []string) (node, api.Errno) {
	return t.findDir(names[:len(names)-1])
}

// vacant is the directory that is to have the last of names, and does not yet.
func (t *tree) vacant(names []string) (node, api.Errno) {
	if len(names) == 0 {
		return node{}, api.Exists
	}
	n, e := t.parent(names)
	if e != api.OK {
		return node{}, e
	}
	if _, e := dir.Find(t.view, n.at, last(names)); e != api.NoEntry {
		return node{}, api.Exists
	}
	return n, api.OK
}

// freeInode is the least inode that is free.
func (t *tree) freeInode() (int, api.Errno) {
	for i := root + 1; i < t.inodes; i++ {
		n, e := t.view.Inode(i)
		if e != api.OK {
			return 0, api.ErrTree
		}
		if n.Kind == api.KindFree {
			return i, api.OK
		}
	}
	return 0, api.NoSpace
}

// take has a name that was found be there no longer.
func (t *tree) take(names []string) api.Errno {
	n, e := t.parent(names)
	if e != api.OK {
		return e
	}
	_, e = dir.Take(t.view, n.at, last(names))
	return e
}

// cut has a file have so many bytes.
func (t *tree) cut(at, size int) api.Errno {
	ahead := t.view.Changes()
	if e := t.view.Cut(at, size); e != api.OK {
		return e
	}
	bits := t.bitmap()
	for _, c := range t.view.Changes() {
		if !slices.Contains(ahead, c) && !t.stands(bits, c.Block) {
			t.idle = append(t.idle, c.Block)
		}
	}
	return api.OK
}

// remove has what has no name any more be free.
func (t *tree) remove(at int) api.Errno {
	if e := t.cut(at, 0); e != api.OK {
		return e
	}
	return t.view.Set(at, api.Inode{})
}

// bitmap is the bitmap as it is now.
func (t *tree) bitmap() string {
	for _, c := range t.view.Changes() {
		if c.Block == t.regions.Bitmap {
			return c.Data
		}
	}
	return t.bits
}

// stands tells whether what a block holds counts: it is no data block, or it is taken.
func (t *tree) stands(bits string, block int) bool {
	return block < t.regions.Data || bits[block/byteBits]>>(block%byteBits)&1 == 1
}

// changes are the changes of the blocks. Blocks of names that a cut let go stay as they were: a file may have so many of them that no transaction could change all.
func (t *tree) changes() []api.Change {
	return slices.DeleteFunc(t.view.Changes(), func(c api.Change) bool { return slices.Contains(t.idle, c.Block) })
}

func last(names []string) string {
	return names[len(names)-1]
}
