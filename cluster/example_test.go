package cluster

import (
	"slices"
	"strings"
	"testing"

	"cartulary/api"
	"cartulary/bag"
	"cartulary/fsck"
	"cartulary/msg"
)

// The examples of the whole, by their numbers.

func paths(t *testing.T, k *kit, node int) []string {
	t.Helper()
	blocks, _ := mended(t, k.c.Disk(node))
	tree, e := fsck.Tree(k.s, blocks)
	if e != api.OK {
		t.Fatal(e)
	}
	var l []string
	for _, f := range tree {
		l = append(l, f.Path)
	}
	return l
}

func told(node, client, req int, e api.Errno) api.Reply {
	return api.Reply{Node: node, Client: client, Req: req, Result: api.Result{E: e}}
}

// untilReply has a node work till it replies.
func (k *kit) untilReply(node int) []api.Reply {
	k.t.Helper()
	for range 100 {
		if l := k.at(api.ChWork, node); len(l) > 0 {
			return l
		}
	}
	return nil
}

// 1, 9, and the chapter's own
func TestOneNode(t *testing.T) {
	k := newKit(t, 1, small)
	silent(t, k.call(0, 1, 1, create("/a")))
	if len(k.c.H()) != 0 {
		t.Errorf("%v", k.c.H())
	}
	silent(t, k.at(api.ChFlush, 0))
	if !slices.Equal(k.c.H(), []api.Entry{{Client: 1, Req: 1, Op: create("/a")}}) {
		t.Errorf("%v", k.c.H())
	}
	replies(t, k.untilReply(0), told(0, 1, 1, api.OK))
	for i, x := range []struct {
		op   api.Op
		want api.Errno
	}{
		{create("/a"), api.Exists},
		{api.Op{Kind: api.OpMkdir, Path: "/d"}, api.OK},
		{api.Op{Kind: api.OpRename, Path: "/d", To: "/d/e"}, api.Invalid},
	} {
		silent(t, k.call(0, 1, i+2, x.op))
		k.flush(0)
		replies(t, k.untilReply(0), told(0, 1, i+2, x.want))
	}
	k.rules()
	k.trees()
}

// 2 to 6
func TestThreeNodes(t *testing.T) {
	k := newKit(t, 3, small)
	op := api.Op{Kind: api.OpMkdir, Path: "/d"}
	silent(t, k.call(0, 5, 1, op))
	k.flush(0)
	silent(t, k.untilReply(0))
	k.carry(0, msg.Prepare, 0, 1)
	silent(t, k.untilReply(0))
	k.flush(1)
	k.carry(0, msg.Acked, 1, 0)
	replies(t, k.untilReply(0), told(0, 5, 1, api.OK))
	replies(t, k.call(0, 5, 1, op), told(0, 5, 1, api.OK))
	if len(k.c.H()) != 1 {
		t.Errorf("%v", k.c.H())
	}
	replies(t, k.call(1, 5, 1, op), told(1, 5, 1, api.ErrState))
	k.do(api.Choice{Kind: api.ChCrash, Node: 0})
	k.change(1, 1, 2)
	k.begin(1, 2)
	silent(t, k.call(1, 5, 1, op))
	k.carry(1, msg.Start, 1, 2)
	k.flush(2)
	k.carry(1, msg.Acked, 2, 1)
	replies(t, k.untilReply(1), told(1, 5, 1, api.OK))
	if l := paths(t, k, 1); !slices.Equal(l, []string{"/", "/d"}) {
		t.Errorf("%v", l)
	}
	k.at(api.ChStart, 0)
	if s := k.c.Stand(0); s.View != 0 || !s.Normal {
		t.Errorf("%+v", s)
	}
	k.carry(1, msg.Start, 1, 0)
	if s := k.c.Stand(0); s.View != 1 || !s.Normal || !slices.Equal(k.c.Log(0), k.c.Log(1)) {
		t.Errorf("%+v, %v", s, k.c.Log(0))
	}
	k.rules()
	k.trees()
}

// 7
func TestNoSpace(t *testing.T) {
	k := newKit(t, 1, small)
	data := strings.Repeat("x", api.MaxData)
	ops := []api.Op{create("/a")}
	for at := range 3 {
		ops = append(ops, api.Op{Kind: api.OpWrite, Path: "/a", At: at * api.MaxData, Data: data})
	}
	for i, op := range ops {
		k.call(0, 1, i+1, op)
		k.flush(0)
		was := k.c.Disk(0)
		l := k.untilReply(0)
		if len(l) == 1 && l[0].Result.E == api.OK {
			continue
		}
		replies(t, l, told(0, 1, i+1, api.NoSpace))
		if r := small.Journal + 1; !slices.Equal(k.c.Disk(0)[r:], was[r:]) {
			t.Error("a write without room has changed something")
		}
		k.trees()
		return
	}
	t.Error("all of it has room")
}

// 8
func TestCrashInCommit(t *testing.T) {
	seen := map[int]bool{}
	for acts := range 10 {
		for n := range 16 {
			k := newKit(t, 1, small)
			k.call(0, 1, 1, create("/a"))
			k.flush(0)
			k.many(api.ChWork, 0, acts)
			k.do(api.Choice{Kind: api.ChCrash, N: n, Torn: n % 2})
			k.trees()
			seen[len(paths(t, k, 0))] = true
			k.at(api.ChStart, 0)
			k.trees()
			k.calmDown(request{1, 1}, create("/a"))
			k.rules()
			if l := paths(t, k, 0); !slices.Equal(l, []string{"/", "/a"}) {
				t.Errorf("%d acts, picks %d: %v", acts, n, l)
			}
		}
	}
	if !seen[1] || !seen[2] || len(seen) != 2 {
		t.Errorf("%v", seen)
	}
}

// 10
func TestTurnedBit(t *testing.T) {
	k := busy(t)
	for _, m := range k.c.Flight() {
		for bit := range 8 * len(m.Text) {
			b := []byte(m.Text)
			b[bit/8] ^= 1 << (bit % 8)
			turned := bag.Message{From: m.From, To: m.To, Text: string(b)}
			was := snapshot(k.c)
			k.c.bag.Put(turned)
			silent(t, k.deliver(slices.Index(k.c.Flight(), turned)))
			if snapshot(k.c) != was {
				t.Fatalf("bit %d of %v", bit, m)
			}
		}
	}
}
