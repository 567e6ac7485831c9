package desk

import "cartulary/api"

// opening is what an open line says.
type opening struct {
	nodes int
	shape api.Shape
}

// The keys of choices; some verbs' n is the choice's own, call's is its operation's.
const (
	keyNode = iota
	keyN
	keyTorn
	keyClient
	keyReq
	keyOp
	keyAt
	keySize
	keyPath
	keyTo
	keyData
	manyKeys
)

// choices are the verbs of choices.
func choices() []verb[api.Choice] {
	table := choiceKeys()
	row := func(name string, kind int, keys ...int) verb[api.Choice] {
		v := verb[api.Choice]{name: name, bare: api.Choice{Kind: kind}}
		for _, k := range keys {
			v.keys = append(v.keys, table[k])
		}
		return v
	}
	return []verb[api.Choice]{
		row("call", api.ChCall, keyNode, keyClient, keyReq, keyOp, keyAt, keySize, keyPath, keyTo, keyData),
		row("deliver", api.ChDeliver, keyN),
		row("drop", api.ChDrop, keyN),
		row("twice", api.ChTwice, keyN),
		row("tick", api.ChTick, keyNode),
		row("flush", api.ChFlush, keyNode),
		row("work", api.ChWork, keyNode),
		row("start", api.ChStart, keyNode),
		row("crash", api.ChCrash, keyNode, keyN, keyTorn),
	}
}

func choiceKeys() [manyKeys]key[api.Choice] {
	return [manyKeys]key[api.Choice]{
		keyNode:   number("node", func(x *api.Choice) *int { return &x.Node }),
		keyN:      number("n", func(x *api.Choice) *int { return &x.N }),
		keyTorn:   number("torn", func(x *api.Choice) *int { return &x.Torn }),
		keyClient: number("client", func(x *api.Choice) *int { return &x.Client }),
		keyReq:    number("req", func(x *api.Choice) *int { return &x.Req }),
		keyOp:     operation("op", func(x *api.Choice) *int { return &x.Op.Kind }),
		keyAt:     number("at", func(x *api.Choice) *int { return &x.Op.At }),
		keySize:   number("n", func(x *api.Choice) *int { return &x.Op.N }),
		keyPath:   text("path", func(x *api.Choice) *string { return &x.Op.Path }),
		keyTo:     text("to", func(x *api.Choice) *string { return &x.Op.To }),
		keyData:   text("data", func(x *api.Choice) *string { return &x.Op.Data }),
	}
}

// open is the verb that opens a cluster.
func open() verb[opening] {
	return verb[opening]{name: "open", keys: []key[opening]{
		number("nodes", func(x *opening) *int { return &x.nodes }),
		number("blocks", func(x *opening) *int { return &x.shape.Blocks }),
		number("journal", func(x *opening) *int { return &x.shape.Journal }),
		number("inodes", func(x *opening) *int { return &x.shape.Inodes }),
	}}
}

// reply is the verb of replies.
func reply() verb[api.Reply] {
	return verb[api.Reply]{name: "reply", keys: []key[api.Reply]{
		number("node", func(x *api.Reply) *int { return &x.Node }),
		number("client", func(x *api.Reply) *int { return &x.Client }),
		number("req", func(x *api.Reply) *int { return &x.Req }),
		number("e", func(x *api.Reply) *api.Errno { return &x.Result.E }),
		number("kind", func(x *api.Reply) *int { return &x.Result.Kind }),
		number("links", func(x *api.Reply) *int { return &x.Result.Links }),
		number("size", func(x *api.Reply) *int { return &x.Result.Size }),
		text("data", func(x *api.Reply) *string { return &x.Result.Data }),
		list("names", func(x *api.Reply) *[]string { return &x.Result.Names }),
	}}
}
