package cluster

import (
	"cartulary/api"
	"cartulary/bag"
	"cartulary/vsr"
)

// mostPicks is how many of a crash's writes its number can pick.
const mostPicks = 62

// row is what a choice of a kind does, and whether the fields that it names are right.
type row struct {
	isRight func(x api.Choice) bool
	do      func(x api.Choice) []api.Reply
}

// rows are the kinds of choices.
func (c *Cluster) rows() map[int]row {
	return map[int]row{
		api.ChCall:    {isRight: c.isOfNode, do: c.call},
		api.ChDeliver: {isRight: isOfBag, do: c.deliver},
		api.ChDrop:    {isRight: isOfBag, do: c.drop},
		api.ChTwice:   {isRight: isOfBag, do: c.twice},
		api.ChTick:    {isRight: c.isOfNode, do: c.tick},
		api.ChFlush:   {isRight: c.isOfNode, do: c.flush},
		api.ChCrash:   {isRight: c.isCrash, do: c.crash},
		api.ChStart:   {isRight: c.isOfNode, do: c.start},
		api.ChWork:    {isRight: c.isOfNode, do: c.work},
	}
}

func (c *Cluster) isOfNode(x api.Choice) bool {
	return c.has(x.Node)
}

func isOfBag(x api.Choice) bool {
	return x.N >= 0
}

func (c *Cluster) isCrash(x api.Choice) bool {
	return c.isOfNode(x) && x.N >= 0 && x.Torn >= 0 && x.Torn <= api.MaxBlocks
}

func (c *Cluster) call(x api.Choice) []api.Reply {
	c.called[requestOf(x)] = x.Op
	return c.did(x.Node, c.nodes[x.Node].Call(x.Client, x.Req, x.Op))
}

func (c *Cluster) deliver(x api.Choice) []api.Reply {
	m, e := c.bag.Deliver(x.N)
	if e != api.OK {
		return nil
	}
	return c.did(m.To, c.nodes[m.To].Message(m.From, m.Text))
}

func (c *Cluster) drop(x api.Choice) []api.Reply {
	c.bag.Drop(x.N)
	return nil
}

func (c *Cluster) twice(x api.Choice) []api.Reply {
	c.bag.Twice(x.N)
	return nil
}

func (c *Cluster) tick(x api.Choice) []api.Reply {
	return c.did(x.Node, c.nodes[x.Node].Tick())
}

func (c *Cluster) flush(x api.Choice) []api.Reply {
	return c.did(x.Node, c.nodes[x.Node].Flush())
}

func (c *Cluster) crash(x api.Choice) []api.Reply {
	c.nodes[x.Node].Crash(picksOf(x.N), x.Torn)
	return nil
}

func (c *Cluster) start(x api.Choice) []api.Reply {
	return c.did(x.Node, c.nodes[x.Node].Start())
}

func (c *Cluster) work(x api.Choice) []api.Reply {
	return c.did(x.Node, c.nodes[x.Node].Work())
}

// did puts what a node sent into the bag, which loses what it has no room for, and tells what the node replied.
func (c *Cluster) did(node int, d vsr.Done) []api.Reply {
	for _, o := range d.Outs {
		c.bag.Put(bag.Message{From: node, To: o.To, Text: o.Text})
	}
	return d.Replies
}

// picksOf are the picks that a number's bits are.
func picksOf(n int) []bool {
	var picks []bool
	for i := range mostPicks {
		picks = append(picks, n>>i&1 == 1)
	}
	return picks
}
