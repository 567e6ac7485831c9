package fs

import (
	"cartulary/api"
	"cartulary/dir"
	"cartulary/path"
)

func (t *tree) create(c call) api.Result {
	return only(t.add(c.names, api.KindFile))
}

func (t *tree) mkdir(c call) api.Result {
	return only(t.add(c.names, api.KindDir))
}

func (t *tree) write(c call) api.Result {
	if c.At < 0 || len(c.Data) > api.MaxData {
		return only(api.Invalid)
	}
	n, e := t.findFile(c.names)
	if e != api.OK {
		return only(e)
	}
	return only(t.view.Write(n.at, c.At, c.Data))
}

func (t *tree) truncate(c call) api.Result {
	if c.N < 0 {
		return only(api.Invalid)
	}
	if c.N > api.MaxSize {
		return only(api.TooBig)
	}
	n, e := t.findFile(c.names)
	if e != api.OK {
		return only(e)
	}
	return only(t.cut(n.at, c.N))
}

func (t *tree) read(c call) api.Result {
	if c.At < 0 || c.N < 0 || c.N > api.MaxData {
		return only(api.Invalid)
	}
	n, e := t.findFile(c.names)
	if e != api.OK {
		return only(e)
	}
	data, e := t.view.Read(n.at, c.At, c.N)
	return api.Result{E: e, Data: data}
}

func (t *tree) stat(c call) api.Result {
	n, e := t.find(c.names)
	if e != api.OK {
		return only(e)
	}
	return api.Result{Kind: n.Kind, Links: n.Links, Size: n.Size}
}

func (t *tree) list(c call) api.Result {
	n, e := t.findDir(c.names)
	if e != api.OK {
		return only(e)
	}
	names, e := dir.Names(t.view, n.at)
	return api.Result{E: e, Names: names}
}

func (t *tree) link(c call) api.Result {
	n, e := t.findFile(c.names)
	if e != api.OK {
		return only(e)
	}
	if n.Links >= api.MaxLinks {
		return only(api.ManyLinks)
	}
	to, e := t.vacant(c.toNames)
	if e != api.OK {
		return only(e)
	}
	if e := dir.Put(t.view, to.at, last(c.toNames), n.at); e != api.OK {
		return only(e)
	}
	n.Links++
	return only(t.view.Set(n.at, n.Inode))
}

func (t *tree) unlink(c call) api.Result {
	// Of the root too this tells IsDir.
	n, e := t.findFile(c.names)
	if e != api.OK {
		return only(e)
	}
	if e := t.take(c.names); e != api.OK {
		return only(e)
	}
	n.Links--
	if n.Links == 0 {
		return only(t.remove(n.at))
	}
	return only(t.view.Set(n.at, n.Inode))
}

func (t *tree) rmdir(c call) api.Result {
	if len(c.names) == 0 {
		return only(api.Invalid)
	}
	n, e := t.findDir(c.names)
	if e != api.OK {
		return only(e)
	}
	_, used, e := dir.Count(t.view, n.at)
	if e != api.OK {
		return only(e)
	}
	if used > 0 {
		return only(api.NotEmpty)
	}
	if e := t.take(c.names); e != api.OK {
		return only(e)
	}
	return only(t.remove(n.at))
}

func (t *tree) rename(c call) api.Result {
	if len(c.names) == 0 {
		return only(api.Invalid)
	}
	n, e := t.find(c.names)
	if e != api.OK {
		return only(e)
	}
	// The root is below nothing, so that this is not asked ahead of its Exists.
	if below, _ := path.Below(c.To, c.Path); below && n.isDir() {
		return only(api.Invalid)
	}
	to, e := t.vacant(c.toNames)
	if e != api.OK {
		return only(e)
	}
	if e := t.take(c.names); e != api.OK {
		return only(e)
	}
	return only(dir.Put(t.view, to.at, last(c.toNames), n.at))
}

// add has a new inode have a name.
func (t *tree) add(names []string, kind int) api.Errno {
	to, e := t.vacant(names)
	if e != api.OK {
		return e
	}
	at, e := t.freeInode()
	if e != api.OK {
		return e
	}
	if e := t.view.Set(at, newInode(kind)); e != api.OK {
		return e
	}
	return dir.Put(t.view, to.at, last(names), at)
}
