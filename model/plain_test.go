package model

import (
	"slices"
	"strings"

	"cartulary/api"
	"cartulary/path"
)

// plainNode is an inode: a file's bytes that are not 0, by their places, and its blocks by their indices; a directory's names by its slots ("" in one that is free), and their inodes.
type plainNode struct {
	kind, links, size int
	bytes             map[int]byte
	there             map[int]bool
	names             []string
	inodes            []int
}

// plain is a model that does each operation on a copy of itself, and counts the blocks behind it.
type plain struct {
	nodes []plainNode
	most  int
}

func newPlain(s api.Shape) *plain {
	p := &plain{nodes: make([]plainNode, s.Inodes), most: s.Blocks - s.Journal - 2 - (s.Inodes+3)/4}
	p.nodes[0] = plainNode{kind: 2, links: 1}
	return p
}

func (p *plain) copy() *plain {
	q := &plain{nodes: slices.Clone(p.nodes), most: p.most}
	for i, n := range p.nodes {
		q.nodes[i].bytes, q.nodes[i].there = map[int]byte{}, map[int]bool{}
		for at, b := range n.bytes {
			q.nodes[i].bytes[at] = b
		}
		for index := range n.there {
			q.nodes[i].there[index] = true
		}
		q.nodes[i].names, q.nodes[i].inodes = slices.Clone(n.names), slices.Clone(n.inodes)
	}
	return q
}

// indices are those that have a block.
func (n *plainNode) indices() []int {
	out := []int{}
	if n.kind == 2 {
		for at := 0; at < len(n.names); at += 4 {
			out = append(out, at/4)
		}
		return out
	}
	for index := range n.there {
		out = append(out, index)
	}
	slices.Sort(out)
	return out
}

func (n *plainNode) length() int {
	if n.kind == 2 {
		return 32 * len(n.names)
	}
	return n.size
}

// blocks are all that are there: those of the indices, and those that name them.
func (p *plain) blocks() int {
	count := 0
	for i := range p.nodes {
		single, double, named := 0, 0, map[int]bool{}
		for _, index := range p.nodes[i].indices() {
			count++
			if index >= 6 && index < 70 {
				single = 1
			}
			if index >= 70 {
				double = 1
				named[(index-70)/64] = true
			}
		}
		count += single + double + len(named)
	}
	return count
}

func (p *plain) used() (int, int) {
	inodes := 0
	for _, n := range p.nodes {
		if n.kind != 0 {
			inodes++
		}
	}
	return p.blocks(), inodes
}

func (p *plain) find(names []string) (int, api.Errno) {
	at := 0
	for _, name := range names {
		if p.nodes[at].kind == 1 {
			return 0, api.NotDir
		}
		k := slices.Index(p.nodes[at].names, name)
		if k < 0 {
			return 0, api.NoEntry
		}
		at = p.nodes[at].inodes[k]
	}
	return at, api.OK
}

// parent is where the last name is, or would be: its directory, and its slot (-1: none).
func (p *plain) parent(names []string) (int, int, api.Errno) {
	dir, e := p.find(names[:len(names)-1])
	if e != api.OK {
		return 0, 0, e
	}
	if p.nodes[dir].kind == 1 {
		return 0, 0, api.NotDir
	}
	return dir, slices.Index(p.nodes[dir].names, names[len(names)-1]), api.OK
}

func (p *plain) put(dir int, name string, inode int) {
	n := &p.nodes[dir]
	k := slices.Index(n.names, "")
	if k < 0 {
		n.names, n.inodes = append(n.names, ""), append(n.inodes, 0)
		k = len(n.names) - 1
	}
	n.names[k], n.inodes[k] = name, inode
}

func (p *plain) take(names []string) {
	dir, k, _ := p.parent(names)
	p.nodes[dir].names[k], p.nodes[dir].inodes[k] = "", 0
}

// do does an operation: what went well is kept, if its blocks are not too many.
func (p *plain) do(op api.Op) api.Result {
	if op.Kind < 1 || op.Kind > 11 {
		return api.Result{E: api.Invalid}
	}
	names, e := path.Split(op.Path)
	to := []string{}
	if e == api.OK && (op.Kind == 8 || op.Kind == 11) {
		to, e = path.Split(op.To)
	}
	if e != api.OK {
		return api.Result{E: e}
	}
	if op.Kind >= 5 && op.Kind <= 7 {
		return p.change(op, names, to)
	}
	q := p.copy()
	r := q.change(op, names, to)
	if r.E == api.OK && q.blocks() > p.most {
		r = api.Result{E: api.NoSpace}
	}
	if r.E == api.OK {
		*p = *q
		return r
	}
	return api.Result{E: r.E}
}

// change does an operation as if there were room for every block.
func (p *plain) change(op api.Op, names, to []string) api.Result {
	switch op.Kind {
	case 1, 2:
		return api.Result{E: p.add(names, op.Kind)}
	case 3, 4, 5:
		return p.bytes(op, names)
	case 6, 7:
		return p.tell(op, names)
	case 8:
		return api.Result{E: p.link(names, to)}
	case 9, 10:
		return api.Result{E: p.remove(op, names)}
	}
	return api.Result{E: p.rename(names, to)}
}

func (p *plain) add(names []string, kind int) api.Errno {
	if len(names) == 0 {
		return api.Exists
	}
	dir, k, e := p.parent(names)
	if e != api.OK {
		return e
	}
	if k >= 0 {
		return api.Exists
	}
	for i := range p.nodes {
		if p.nodes[i].kind == 0 {
			p.nodes[i] = plainNode{kind: kind, links: 1, bytes: map[int]byte{}, there: map[int]bool{}}
			p.put(dir, names[len(names)-1], i)
			return api.OK
		}
	}
	return api.NoSpace
}

// bytes are OpWrite, OpTruncate and OpRead.
func (p *plain) bytes(op api.Op, names []string) api.Result {
	switch {
	case op.Kind == 3 && (op.At < 0 || len(op.Data) > 1024), op.Kind == 4 && op.N < 0, op.Kind == 5 && (op.At < 0 || op.N < 0 || op.N > 1024):
		return api.Result{E: api.Invalid}
	case op.Kind == 4 && op.N > 533248:
		return api.Result{E: api.TooBig}
	}
	at, e := p.find(names)
	if e != api.OK {
		return api.Result{E: e}
	}
	n := &p.nodes[at]
	if n.kind == 2 {
		return api.Result{E: api.IsDir}
	}
	switch {
	case op.Kind == 5:
		out := []byte{}
		for i := op.At; i >= op.At && i-op.At < op.N && i < n.size; i++ {
			out = append(out, n.bytes[i])
		}
		return api.Result{Data: string(out)}
	case op.Kind == 3 && op.Data != "" && (op.At > 533248 || op.At+len(op.Data) > 533248):
		return api.Result{E: api.TooBig}
	case op.Kind == 3:
		for i := range len(op.Data) {
			n.bytes[op.At+i] = op.Data[i]
			n.there[(op.At+i)/128] = true
			n.size = max(n.size, op.At+i+1)
		}
		return api.Result{}
	}
	n.size = op.N
	for i := range n.bytes {
		if i >= op.N {
			delete(n.bytes, i)
		}
	}
	for index := range n.there {
		if index*128 >= op.N {
			delete(n.there, index)
		}
	}
	return api.Result{}
}

// tell is OpStat and OpList.
func (p *plain) tell(op api.Op, names []string) api.Result {
	at, e := p.find(names)
	if e != api.OK {
		return api.Result{E: e}
	}
	n := &p.nodes[at]
	if op.Kind == 6 {
		return api.Result{Kind: n.kind, Links: n.links, Size: n.length()}
	}
	if n.kind == 1 {
		return api.Result{E: api.NotDir}
	}
	out := []string{}
	for _, name := range n.names {
		if name != "" {
			out = append(out, name)
		}
	}
	slices.Sort(out)
	return api.Result{Names: out}
}

func (p *plain) link(names, to []string) api.Errno {
	at, e := p.find(names)
	if e != api.OK {
		return e
	}
	if p.nodes[at].kind == 2 {
		return api.IsDir
	}
	if p.nodes[at].links == 100 {
		return api.ManyLinks
	}
	if len(to) == 0 {
		return api.Exists
	}
	dir, k, e := p.parent(to)
	if e != api.OK {
		return e
	}
	if k >= 0 {
		return api.Exists
	}
	p.put(dir, to[len(to)-1], at)
	p.nodes[at].links++
	return api.OK
}

// remove is OpUnlink and OpRmdir.
func (p *plain) remove(op api.Op, names []string) api.Errno {
	if len(names) == 0 {
		return map[int]api.Errno{9: api.IsDir, 10: api.Invalid}[op.Kind]
	}
	at, e := p.find(names)
	if e != api.OK {
		return e
	}
	n := &p.nodes[at]
	if op.Kind == 9 && n.kind == 2 {
		return api.IsDir
	}
	if op.Kind == 10 && n.kind == 1 {
		return api.NotDir
	}
	if strings.Join(n.names, "") != "" {
		return api.NotEmpty
	}
	p.take(names)
	n.links--
	if n.links == 0 {
		*n = plainNode{}
	}
	return api.OK
}

func (p *plain) rename(names, to []string) api.Errno {
	if len(names) == 0 {
		return api.Invalid
	}
	at, e := p.find(names)
	if e != api.OK {
		return e
	}
	if len(to) == 0 {
		return api.Exists
	}
	if p.nodes[at].kind == 2 && len(to) > len(names) && slices.Equal(to[:len(names)], names) {
		return api.Invalid
	}
	dir, k, e := p.parent(to)
	if e != api.OK {
		return e
	}
	if k >= 0 {
		return api.Exists
	}
	p.take(names)
	p.put(dir, to[len(to)-1], at)
	return api.OK
}

// tree goes down from an inode, name by name.
func (p *plain) tree(way string, at int) []File {
	n := &p.nodes[at]
	f := File{Path: way, Inode: at, Kind: n.kind, Links: n.links, Size: n.length(), Blocks: n.indices()}
	if way == "" {
		f.Path = "/"
	}
	data := []byte{}
	for _, index := range f.Blocks {
		for i := 0; n.kind == 1 && i < 128; i++ {
			data = append(data, n.bytes[index*128+i])
		}
	}
	f.Data = string(data)
	out := []File{f}
	sorted := slices.Clone(n.names)
	slices.Sort(sorted)
	for _, name := range sorted {
		if name != "" {
			out = append(out, p.tree(way+"/"+name, n.inodes[slices.Index(n.names, name)])...)
		}
	}
	return out
}
