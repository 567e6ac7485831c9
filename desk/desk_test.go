package desk

import (
	"math"
	"slices"
	"strconv"
	"strings"
	"testing"

	"cartulary/api"
)

// source is a source of numbers, always the same ones.
type source struct{ x uint32 }

func (s *source) next(n int) int {
	s.x = s.x*1664525 + 1013904223
	return int(s.x>>8) % n
}

// tabs writes a line with a bar where it has a byte 9.
func tabs(s string) string { return strings.ReplaceAll(s, "|", "\t") }

func sameReply(a, b api.Reply) bool {
	x, y := a.Result, b.Result
	return a.Node == b.Node && a.Client == b.Client && a.Req == b.Req && x.E == y.E && x.Data == y.Data && x.Kind == y.Kind && x.Links == y.Links && x.Size == y.Size && slices.Equal(x.Names, y.Names)
}

const most = "1099511627776"

// 28.1, 28.3

func TestChoices(t *testing.T) {
	for _, c := range []struct {
		line string
		x    api.Choice
	}{
		{"call|op=create", api.Choice{Kind: api.ChCall, Op: api.Op{Kind: api.OpCreate}}},
		{"call|op=mkdir|path=/d", api.Choice{Kind: api.ChCall, Op: api.Op{Kind: api.OpMkdir, Path: "/d"}}},
		{"call|op=write|data=%25%2C%3D%20%09%0A%00%FF%7F%80%7E", api.Choice{Kind: api.ChCall, Op: api.Op{Kind: api.OpWrite, Data: "%,= \t\n\x00\xff\x7f\x80~"}}},
		{"call|op=truncate|n=7", api.Choice{Kind: api.ChCall, Op: api.Op{Kind: api.OpTruncate, N: 7}}},
		{"call|op=read|at=6|n=7", api.Choice{Kind: api.ChCall, Op: api.Op{Kind: api.OpRead, At: 6, N: 7}}},
		{"call|op=stat|path=a.b_c-d/E9", api.Choice{Kind: api.ChCall, Op: api.Op{Kind: api.OpStat, Path: "a.b_c-d/E9"}}},
		{"call|op=list", api.Choice{Kind: api.ChCall, Op: api.Op{Kind: api.OpList}}},
		{"call|op=link|to=/b", api.Choice{Kind: api.ChCall, Op: api.Op{Kind: api.OpLink, To: "/b"}}},
		{"call|op=unlink", api.Choice{Kind: api.ChCall, Op: api.Op{Kind: api.OpUnlink}}},
		{"call|op=rmdir", api.Choice{Kind: api.ChCall, Op: api.Op{Kind: api.OpRmdir}}},
		{"call|node=1|client=2|req=3|op=rename|at=4|n=5|path=a|to=b|data=c", api.Choice{Kind: api.ChCall, Node: 1, Client: 2, Req: 3, Op: api.Op{Kind: api.OpRename, At: 4, N: 5, Path: "a", To: "b", Data: "c"}}},
		{"call|node=" + most + "|client=" + most + "|req=" + most + "|op=read|at=" + most + "|n=" + most, api.Choice{Kind: api.ChCall, Node: api.MaxSeq, Client: api.MaxSeq, Req: api.MaxSeq, Op: api.Op{Kind: api.OpRead, At: api.MaxSeq, N: api.MaxSeq}}},
		{"deliver", api.Choice{Kind: api.ChDeliver}},
		{"deliver|n=1", api.Choice{Kind: api.ChDeliver, N: 1}},
		{"drop", api.Choice{Kind: api.ChDrop}},
		{"drop|n=10", api.Choice{Kind: api.ChDrop, N: 10}},
		{"twice", api.Choice{Kind: api.ChTwice}},
		{"twice|n=" + most, api.Choice{Kind: api.ChTwice, N: api.MaxSeq}},
		{"tick", api.Choice{Kind: api.ChTick}},
		{"tick|node=6", api.Choice{Kind: api.ChTick, Node: 6}},
		{"flush|node=1", api.Choice{Kind: api.ChFlush, Node: 1}},
		{"work|node=2", api.Choice{Kind: api.ChWork, Node: 2}},
		{"start|node=3", api.Choice{Kind: api.ChStart, Node: 3}},
		{"crash", api.Choice{Kind: api.ChCrash}},
		{"crash|node=1|n=2|torn=3", api.Choice{Kind: api.ChCrash, Node: 1, N: 2, Torn: 3}},
		{"crash|torn=3", api.Choice{Kind: api.ChCrash, Torn: 3}},
	} {
		line := tabs(c.line)
		if x, e := Choice(line); x != c.x || e != api.OK {
			t.Errorf("Choice(%q): %+v, %v", line, x, e)
		}
		if s, e := Line(c.x); s != line || e != api.OK {
			t.Errorf("Line(%+v): %q, %v", c.x, s, e)
		}
	}
}

func TestNoChoices(t *testing.T) {
	for _, s := range []string{
		"", "|", " tick", "tick ", "Tick", "tic", "ticks", "tick|", "|tick", "tick||node=1", "tick|node=1|", "tick\n", "tick\r", "; tick", "node=1", "tick node=1",
		"open", "open|nodes=1|blocks=40|journal=20|inodes=8", "reply", "reply|node=1",
		// values of numbers
		"tick|node", "tick|node=", "tick|node=0", "tick|node=01", "tick|node=00", "tick|node=-1", "tick|node=+1", "tick|node=x", "tick|node=1x", "tick|node= 1", "tick|node=1 ", "tick|node=1.0", "tick|node=%31", "tick|node=1e3", "tick|node=0x1", "tick|node=1_0",
		"tick|node=1099511627777", "tick|node=9999999999999", "tick|node=10000000000000", "tick|node=18446744073709551617", "tick|node=" + strings.Repeat("1", 400), "tick|node==1", "tick|node=1=1", "tick|=1", "tick|=",
		// keys
		"tick|n=1", "tick|Node=1", "tick| node=1", "tick|node =1", "tick|node=1|node=1", "tick|node=1|node=2", "tick|node=1|n=1", "tick|torn=1", "tick|nodes=1",
		"deliver|node=1", "drop|node=1", "twice|node=1", "flush|n=1", "work|n=1", "start|n=1", "start|op=create",
		"crash|n=1|node=1", "crash|torn=1|n=1", "crash|torn=1|node=1", "crash|node=1|n=1|torn=1|torn=1", "crash|client=1",
		// operations
		"call", "call|req=1", "call|op", "call|op=", "call|op=0", "call|op=1", "call|op=Create", "call|op=creat", "call|op=creates", "call|op=create|op=create", "call|op=%63reate", "call|path=/a", "call|client=1|path=/a",
		"call|op=create|node=1", "call|client=1|node=1|op=create", "call|req=1|client=1|op=create", "call|op=create|req=1", "call|op=read|n=1|at=1", "call|op=link|to=/b|path=/a", "call|op=write|data=a|path=/a", "call|op=create|torn=1", "call|op=create|names=a",
		// texts
		"call|op=stat|path", "call|op=stat|path=", "call|op=stat|path=%", "call|op=stat|path=%2", "call|op=stat|path=a%", "call|op=stat|path=a%0", "call|op=stat|path=%0g", "call|op=stat|path=%g0", "call|op=stat|path=%ff", "call|op=stat|path=%Ff", "call|op=stat|path=%41", "call|op=stat|path=%61", "call|op=stat|path=%30", "call|op=stat|path=%2E", "call|op=stat|path=%2F", "call|op=stat|path=%5F", "call|op=stat|path=%2D", "call|op=stat|path=%%20", "call|op=stat|path=%+1",
		"call|op=stat|path=a b", "call|op=stat|path=a,b", "call|op=stat|path=a=b", "call|op=stat|path=a;b", "call|op=stat|path=a\x00", "call|op=stat|path=a\xff", "call|op=stat|path=\u00e9", "call|op=stat|path=a\n", "call|op=stat|path=a|b",
	} {
		line := tabs(s)
		if x, e := Choice(line); x != (api.Choice{}) || e != api.ErrForm {
			t.Errorf("Choice(%q): %+v, %v", line, x, e)
		}
	}
}

// Each byte has one form: for itself, or as two digits.
func TestBytes(t *testing.T) {
	plain := "abcdefghijklmnopqrstuvwxyzABCDEFGHIJKLMNOPQRSTUVWXYZ0123456789._/-"
	for c := range 256 {
		text := string([]byte{byte(c)})
		value := text
		if strings.IndexByte(plain, byte(c)) < 0 {
			value = "%" + strings.ToUpper(strconv.FormatInt(int64(c)+256, 16)[1:])
		}
		want := "call\top=stat\tpath=" + value
		x := api.Choice{Kind: api.ChCall, Op: api.Op{Kind: api.OpStat, Path: text}}
		if s, e := Line(x); s != want || e != api.OK {
			t.Errorf("byte %d: %q, %v", c, s, e)
		}
		for _, v := range []string{text, "%" + strconv.FormatInt(int64(c)+256, 16)[1:], strings.ToUpper("%" + strconv.FormatInt(int64(c)+256, 16)[1:])} {
			y, e := Choice("call\top=stat\tpath=" + v)
			if right := v == value; right != (e == api.OK) || right && y != x || !right && (y != api.Choice{} || e != api.ErrForm) {
				t.Errorf("%q: %+v, %v", v, y, e)
			}
		}
	}
}

func TestNoLines(t *testing.T) {
	l := []api.Choice{{}, {Kind: -1}, {Kind: 10}, {Kind: math.MaxInt}, {Kind: math.MinInt}, {Kind: api.ChCall}}
	for _, kind := range []int{-1, 0, 12, 13, math.MaxInt, math.MinInt} {
		l = append(l, api.Choice{Kind: api.ChCall, Op: api.Op{Kind: kind, Path: "/a"}})
	}
	for _, n := range []int{-1, math.MinInt, api.MaxSeq + 1, math.MaxInt} {
		op := api.Op{Kind: api.OpRead}
		l = append(l, api.Choice{Kind: api.ChCall, Op: op, Node: n}, api.Choice{Kind: api.ChCall, Op: op, Client: n}, api.Choice{Kind: api.ChCall, Op: op, Req: n})
		l = append(l, api.Choice{Kind: api.ChCall, Op: api.Op{Kind: api.OpRead, At: n}}, api.Choice{Kind: api.ChCall, Op: api.Op{Kind: api.OpRead, N: n}})
		l = append(l, api.Choice{Kind: api.ChCrash, Node: n}, api.Choice{Kind: api.ChCrash, N: n}, api.Choice{Kind: api.ChCrash, Torn: n})
	}
	// Fields for which the verb has no key.
	for kind := api.ChCall; kind <= api.ChWork; kind++ {
		whole := api.Choice{Kind: kind}
		if kind == api.ChCall {
			whole.Op.Kind = api.OpRead
		}
		ofNode, ofN, ofTorn, ofCall := whole, whole, whole, whole
		ofNode.Node, ofN.N, ofTorn.Torn, ofCall.Client = 1, 1, 1, 1
		isCall, isCrash, isBag := kind == api.ChCall, kind == api.ChCrash, kind == api.ChDeliver || kind == api.ChDrop || kind == api.ChTwice
		for _, c := range []struct {
			x     api.Choice
			right bool
		}{{whole, true}, {ofNode, !isBag}, {ofN, isBag || isCrash}, {ofTorn, isCrash}, {ofCall, isCall}} {
			if s, e := Line(c.x); (s != "") != c.right || (e == api.OK) != c.right {
				t.Errorf("Line(%+v): %q, %v", c.x, s, e)
			}
			if !c.right {
				l = append(l, c.x)
			}
		}
		if !isCall {
			for _, op := range []api.Op{{Kind: 1}, {At: 1}, {N: 1}, {Path: "a"}, {To: "a"}, {Data: "a"}, {Kind: -1}} {
				l = append(l, api.Choice{Kind: kind, Op: op})
			}
			l = append(l, api.Choice{Kind: kind, Req: 1})
		}
	}
	for _, x := range l {
		if s, e := Line(x); s != "" || e != api.ErrForm {
			t.Errorf("Line(%+v): %q, %v", x, s, e)
		}
	}
}

func TestReplies(t *testing.T) {
	for _, c := range []struct {
		line string
		r    api.Reply
	}{
		{"reply", api.Reply{}},
		{"reply|node=1|client=5|req=1|e=7", api.Reply{Node: 1, Client: 5, Req: 1, Result: api.Result{E: api.ErrState}}},
		{"reply|e=306", api.Reply{Result: api.Result{E: api.NoSpace}}},
		{"reply|kind=1|links=2|size=3", api.Reply{Result: api.Result{Kind: 1, Links: 2, Size: 3}}},
		{"reply|data=a%20b%00", api.Reply{Result: api.Result{Data: "a b\x00"}}},
		{"reply|names=a", api.Reply{Result: api.Result{Names: []string{"a"}}}},
		{"reply|names=a,b%2Cc,%20,%3D,-", api.Reply{Result: api.Result{Names: []string{"a", "b,c", " ", "=", "-"}}}},
		{"reply|names=b,a,a", api.Reply{Result: api.Result{Names: []string{"b", "a", "a"}}}},
		{"reply|node=1|client=2|req=3|e=4|kind=5|links=6|size=7|data=8|names=9", api.Reply{Node: 1, Client: 2, Req: 3, Result: api.Result{E: 4, Kind: 5, Links: 6, Size: 7, Data: "8", Names: []string{"9"}}}},
		{"reply|node=" + most + "|client=" + most + "|req=" + most + "|e=" + most + "|kind=" + most + "|links=" + most + "|size=" + most, api.Reply{Node: api.MaxSeq, Client: api.MaxSeq, Req: api.MaxSeq, Result: api.Result{E: api.MaxSeq, Kind: api.MaxSeq, Links: api.MaxSeq, Size: api.MaxSeq}}},
	} {
		line := tabs(c.line)
		if r, e := Replied(line); !sameReply(r, c.r) || e != api.OK {
			t.Errorf("Replied(%q): %+v, %v", line, r, e)
		}
		if s, e := Reply(c.r); s != line || e != api.OK {
			t.Errorf("Reply(%+v): %q, %v", c.r, s, e)
		}
	}
	if s, e := Reply(api.Reply{Result: api.Result{Names: []string{}}}); s != "reply" || e != api.OK {
		t.Errorf("%q, %v", s, e)
	}
}

func TestNoReplies(t *testing.T) {
	for _, s := range []string{
		"", "|", "reply|", "reply||e=1", "Reply", "replied", "reply ", "reply\n", "tick", "call|op=create", "open|nodes=1", "; reply",
		"reply|e=0", "reply|e=-1", "reply|e=01", "reply|e=", "reply|e", "reply|e=1|e=1", "reply|e=1099511627777", "reply|e=x", "reply|n=1", "reply|op=create",
		"reply|client=1|node=1", "reply|e=1|req=1", "reply|links=1|kind=1", "reply|size=1|links=1", "reply|data=a|size=1", "reply|names=a|data=a",
		"reply|data=", "reply|data=%41", "reply|data=a,b", "reply|data=a b", "reply|data=%0a",
		"reply|names=", "reply|names", "reply|names=,", "reply|names=a,", "reply|names=,a", "reply|names=a,,b", "reply|names=a, b", "reply|names=%61", "reply|names=a%2", "reply|names=a=b", "reply|names=a|names=b", "reply|names=a;b",
	} {
		line := tabs(s)
		if r, e := Replied(line); !sameReply(r, api.Reply{}) || e != api.ErrForm {
			t.Errorf("Replied(%q): %+v, %v", line, r, e)
		}
	}
	l := []api.Reply{}
	for _, n := range []int{-1, math.MinInt, api.MaxSeq + 1, math.MaxInt} {
		l = append(l, api.Reply{Node: n}, api.Reply{Client: n}, api.Reply{Req: n})
		for _, r := range []api.Result{{E: api.Errno(n)}, {Kind: n}, {Links: n}, {Size: n}} {
			l = append(l, api.Reply{Result: r})
		}
	}
	for _, names := range [][]string{{""}, {"", ""}, {"a", ""}, {"", "a"}, {"a", "", "b"}} {
		l = append(l, api.Reply{Result: api.Result{Names: names}})
	}
	for _, r := range l {
		if s, e := Reply(r); s != "" || e != api.ErrForm {
			t.Errorf("Reply(%+v): %q, %v", r, s, e)
		}
	}
}

func someText(r *source) string {
	letters := "ab/.%,= \t\n\x00\xff~Z09-_"
	b := make([]byte, r.next(4)*r.next(4))
	for i := range b {
		b[i] = letters[r.next(len(letters))]
	}
	return string(b)
}

func someNumber(r *source) int {
	return []int{0, 0, 0, 1, 9, 10, r.next(1000), api.MaxSeq, api.MaxSeq - 1, api.MaxSeq + 1, -1}[min(r.next(11), r.next(11))]
}

func someChoice(r *source) api.Choice {
	x := api.Choice{Kind: r.next(11), Node: someNumber(r)}
	for _, n := range []*int{&x.N, &x.Torn, &x.Client, &x.Req, &x.Op.At, &x.Op.N} {
		if r.next(3) == 0 {
			*n = someNumber(r)
		}
	}
	if x.Kind == api.ChCall || r.next(9) == 0 {
		x.Op.Kind, x.Op.Path, x.Op.To, x.Op.Data = r.next(13), someText(r), someText(r), someText(r)
	}
	return x
}

func someReply(r *source) api.Reply {
	x := api.Reply{Node: someNumber(r), Client: someNumber(r), Req: someNumber(r), Result: api.Result{E: api.Errno(someNumber(r)), Data: someText(r), Kind: someNumber(r), Links: someNumber(r), Size: someNumber(r)}}
	for range r.next(4) {
		x.Result.Names = append(x.Result.Names, someText(r))
	}
	return x
}

// spoilt is a line with one thing changed.
func spoilt(r *source, line string) string {
	fields := strings.Split(line, "\t")
	at := r.next(len(line) + 1)
	switch r.next(6) {
	case 0:
		return line[:at] + "0%,=;\t\nAaz1"[r.next(11):][:1] + line[at:]
	case 1:
		return line[:at]
	case 2:
		return line[at:]
	case 3:
		i, j := r.next(len(fields)), r.next(len(fields))
		fields[i], fields[j] = fields[j], fields[i]
	case 4:
		fields = append(fields, fields[r.next(len(fields))])
	default:
		fields = slices.Delete(fields, at%len(fields), at%len(fields)+1)
	}
	return strings.Join(fields, "\t")
}

// 28.3
func TestThereAndBack(t *testing.T) {
	r := &source{1}
	right, spoiltRight := 0, 0
	for range 30000 {
		x := someChoice(r)
		line, e := Line(x)
		if e == api.OK {
			right++
			if y, e := Choice(line); y != x || e != api.OK {
				t.Fatalf("%+v: %q: %+v, %v", x, line, y, e)
			}
		} else if line != "" || e != api.ErrForm {
			t.Fatalf("%+v: %q, %v", x, line, e)
		}
		s := spoilt(r, line)
		y, e := Choice(s)
		if e == api.OK {
			spoiltRight++
			if line, e := Line(y); line != s || e != api.OK {
				t.Fatalf("%q: %+v: %q, %v", s, y, line, e)
			}
		} else if y != (api.Choice{}) || e != api.ErrForm {
			t.Fatalf("%q: %+v, %v", s, y, e)
		}
	}
	if right < 5000 || spoiltRight < 1000 {
		t.Errorf("%d and %d", right, spoiltRight)
	}
}

func TestReplyThereAndBack(t *testing.T) {
	r := &source{2}
	right, spoiltRight := 0, 0
	for range 30000 {
		x := someReply(r)
		line, e := Reply(x)
		if e == api.OK {
			right++
			if y, e := Replied(line); !sameReply(x, y) || e != api.OK {
				t.Fatalf("%+v: %q: %+v, %v", x, line, y, e)
			}
		} else if line != "" || e != api.ErrForm {
			t.Fatalf("%+v: %q, %v", x, line, e)
		}
		s := spoilt(r, line)
		y, e := Replied(s)
		if e == api.OK {
			spoiltRight++
			if line, e := Reply(y); line != s || e != api.OK {
				t.Fatalf("%q: %+v: %q, %v", s, y, line, e)
			}
		} else if !sameReply(y, api.Reply{}) || e != api.ErrForm {
			t.Fatalf("%q: %+v, %v", s, y, e)
		}
	}
	if right < 5000 || spoiltRight < 1000 {
		t.Errorf("%d and %d", right, spoiltRight)
	}
}

// R3: names are new memory, and those that are handed in stay as they are.
func TestNames(t *testing.T) {
	line := tabs("reply|names=a,b%20c")
	a, _ := Replied(line)
	a.Result.Names[0], a.Result.Names[1] = "x", "y"
	b, _ := Replied(line)
	if !slices.Equal(b.Result.Names, []string{"a", "b c"}) {
		t.Errorf("%v", b.Result.Names)
	}
	if s, e := Reply(b); s != line || e != api.OK || !slices.Equal(b.Result.Names, []string{"a", "b c"}) {
		t.Errorf("%q, %v, %v", s, e, b.Result.Names)
	}
}

// P1: long ones end too.
func TestLongLines(t *testing.T) {
	text := strings.Repeat("a%\x00", 200000)
	x := api.Choice{Kind: api.ChCall, Op: api.Op{Kind: api.OpWrite, Path: text, To: text, Data: text}}
	line, e := Line(x)
	if y, f := Choice(line); y != x || e != api.OK || f != api.OK {
		t.Errorf("%d bytes, %v, %v", len(line), e, f)
	}
	if _, e := Choice(strings.Repeat("tick\t", 200000)); e != api.ErrForm {
		t.Error(e)
	}
}
