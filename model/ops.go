package model

import (
	"slices"

	"cartulary/api"
	"cartulary/path"
)

func (m *Model) create(c call) api.Result {
	return only(m.add(c.names, newFile()))
}

func (m *Model) mkdir(c call) api.Result {
	return only(m.add(c.names, newDir()))
}

func (m *Model) write(c call) api.Result {
	if c.At < 0 || len(c.Data) > api.MaxData {
		return only(api.Invalid)
	}
	at, e := m.findFile(c.names)
	if e != api.OK || c.Data == "" {
		return only(e)
	}
	// At may be so great that its sum with a length wraps round.
	if c.At > api.MaxSize-len(c.Data) {
		return only(api.TooBig)
	}
	n := &m.nodes[at]
	first, last := c.At/api.BlockSize, (c.At+len(c.Data)-1)/api.BlockSize
	if !m.fits(at, n.indicesWith(first, last)) {
		return only(api.NoSpace)
	}
	n.lay(c.At, c.Data)
	return only(api.OK)
}

func (m *Model) truncate(c call) api.Result {
	if c.N < 0 {
		return only(api.Invalid)
	}
	if c.N > api.MaxSize {
		return only(api.TooBig)
	}
	at, e := m.findFile(c.names)
	if e != api.OK {
		return only(e)
	}
	m.nodes[at].cut(c.N)
	return only(api.OK)
}

func (m *Model) read(c call) api.Result {
	if c.At < 0 || c.N < 0 || c.N > api.MaxData {
		return only(api.Invalid)
	}
	at, e := m.findFile(c.names)
	if e != api.OK {
		return only(e)
	}
	n := &m.nodes[at]
	from := min(c.At, n.length())
	return api.Result{Data: n.bytes(from, min(from+c.N, n.length()))}
}

func (m *Model) stat(c call) api.Result {
	at, e := m.find(c.names)
	if e != api.OK {
		return only(e)
	}
	n := &m.nodes[at]
	return api.Result{Kind: n.kind, Links: n.links, Size: n.length()}
}

func (m *Model) list(c call) api.Result {
	at, e := m.findDir(c.names)
	if e != api.OK {
		return only(e)
	}
	names := []string{}
	for _, s := range m.nodes[at].slots {
		if !s.free() {
			names = append(names, s.name)
		}
	}
	slices.Sort(names)
	return api.Result{Names: names}
}

func (m *Model) link(c call) api.Result {
	at, e := m.findFile(c.names)
	if e != api.OK {
		return only(e)
	}
	if m.nodes[at].links >= api.MaxLinks {
		return only(api.ManyLinks)
	}
	dir, e := m.vacant(c.toNames)
	if e != api.OK {
		return only(e)
	}
	if !m.hasSlot(dir) {
		return only(api.NoSpace)
	}
	m.nodes[dir].put(slot{name: last(c.toNames), inode: at})
	m.nodes[at].links++
	return only(api.OK)
}

func (m *Model) unlink(c call) api.Result {
	// Of the root too this tells IsDir.
	at, e := m.findFile(c.names)
	if e != api.OK {
		return only(e)
	}
	m.take(c.names)
	m.nodes[at].links--
	if m.nodes[at].links == 0 {
		m.nodes[at] = node{}
	}
	return only(api.OK)
}

func (m *Model) rmdir(c call) api.Result {
	if len(c.names) == 0 {
		return only(api.Invalid)
	}
	at, e := m.findDir(c.names)
	if e != api.OK {
		return only(e)
	}
	if !m.nodes[at].isEmpty() {
		return only(api.NotEmpty)
	}
	m.take(c.names)
	m.nodes[at] = node{}
	return only(api.OK)
}

func (m *Model) rename(c call) api.Result {
	if len(c.names) == 0 {
		return only(api.Invalid)
	}
	at, e := m.find(c.names)
	if e != api.OK {
		return only(e)
	}
	// The root is below nothing, so that this is not asked ahead of its Exists.
	if below, _ := path.Below(c.To, c.Path); below && m.nodes[at].isDir() {
		return only(api.Invalid)
	}
	dir, e := m.vacant(c.toNames)
	if e != api.OK {
		return only(e)
	}
	// Within one directory the slot that is left is there for the new name.
	from, _ := m.parent(c.names)
	if from != dir && !m.hasSlot(dir) {
		return only(api.NoSpace)
	}
	m.take(c.names)
	m.nodes[dir].put(slot{name: last(c.toNames), inode: at})
	return only(api.OK)
}

// find is the inode to which names lead from the root.
func (m *Model) find(names []string) (int, api.Errno) {
	at := root
	for _, name := range names {
		n := &m.nodes[at]
		if !n.isDir() {
			return 0, api.NotDir
		}
		k := n.slotOf(name)
		if k == nowhere {
			return 0, api.NoEntry
		}
		at = n.slots[k].inode
	}
	return at, api.OK
}

func (m *Model) findFile(names []string) (int, api.Errno) {
	at, e := m.find(names)
	if e == api.OK && m.nodes[at].isDir() {
		return 0, api.IsDir
	}
	return at, e
}

func (m *Model) findDir(names []string) (int, api.Errno) {
	at, e := m.find(names)
	if e == api.OK && !m.nodes[at].isDir() {
		return 0, api.NotDir
	}
	return at, e
}

// parent is the directory of the last of names, of which there is one.
func (m *Model) parent(names []string) (int, api.Errno) {
	return m.findDir(names[:len(names)-1])
}

// vacant is the directory that is to have the last of names, and does not yet.
func (m *Model) vacant(names []string) (int, api.Errno) {
	if len(names) == 0 {
		return 0, api.Exists
	}
	dir, e := m.parent(names)
	if e != api.OK {
		return 0, e
	}
	if m.nodes[dir].slotOf(last(names)) != nowhere {
		return 0, api.Exists
	}
	return dir, api.OK
}

// add has a new inode have a name.
func (m *Model) add(names []string, n node) api.Errno {
	dir, e := m.vacant(names)
	if e != api.OK {
		return e
	}
	at := slices.IndexFunc(m.nodes, func(n node) bool { return n.kind == api.KindFree })
	if at == nowhere || !m.hasSlot(dir) {
		return api.NoSpace
	}
	m.nodes[at] = n
	m.nodes[dir].put(slot{name: last(names), inode: at})
	return api.OK
}

// hasSlot tells whether one more name can be put into a directory.
func (m *Model) hasSlot(dir int) bool {
	n := &m.nodes[dir]
	return n.freeSlot() != nowhere || m.fits(dir, indicesOf(len(n.slots)+1))
}

// take has a name that was found be there no longer.
func (m *Model) take(names []string) {
	dir, _ := m.parent(names)
	m.nodes[dir].take(last(names))
}

func last(names []string) string {
	return names[len(names)-1]
}
