package desk

import (
	"strconv"
	"strings"
	"testing"

	"cartulary/api"
	"cartulary/cluster"
)

const (
	opened = "open|nodes=1|blocks=40|journal=20|inodes=8\n"
	three  = "open|nodes=3|blocks=44|journal=20|inodes=8\n"
)

func runs(t *testing.T, script, want string) {
	t.Helper()
	s, line, e := Run(tabs(script))
	if s != tabs(want) || line != 0 || e != api.OK {
		t.Errorf("Run(%.200q): %q, %d, %v; want %q", script, s, line, e, tabs(want))
	}
}

func fails(t *testing.T, script string, line int, want api.Errno) {
	t.Helper()
	s, n, e := Run(tabs(script))
	if s != "" || n != line || e != want {
		t.Errorf("Run(%.200q): %q, %d, %v; want %d, %v", script, s, n, e, line, want)
	}
}

// 28.2

func TestRun(t *testing.T) {
	runs(t, opened, "")
	runs(t, strings.TrimSuffix(opened, "\n"), "")
	runs(t, "\n\n; a remark\n;\n;;|\n"+opened+"\n;\n\n", "")
	runs(t, opened+"tick", "")
	runs(t, three+"call|node=1|client=5|req=1|op=create|path=/a", "reply|node=1|client=5|req=1|e=7\n")
	runs(t, opened+"call|op=stat|path=/\ncall|req=1|op=stat|path=/\n\n;\nflush\n"+strings.Repeat("work\n", 20), "reply|e=1\nreply|req=1|kind=2|links=1\n")
	// All that is replied to a script with a list of names that are no plain bytes.
	script := opened
	for i, op := range []string{"create|path=/a", "mkdir|path=/b", "create|path=/b/x-y", "write|at=3|path=/a|data=%00%FF%20", "read|at=2|n=9|path=/a", "list|path=/", "stat|path=/a", "read|at=1|path=/b"} {
		script += "call|client=2|req=" + strconv.Itoa(i+1) + "|op=" + op + "\n"
	}
	script += "flush\n" + strings.Repeat("work\n", 100)
	want := ""
	for i, r := range []string{"", "", "", "", "|data=%00%00%FF%20", "|names=a,b", "|kind=1|links=1|size=6", "|e=304"} {
		want += "reply|client=2|req=" + strconv.Itoa(i+1) + r + "\n"
	}
	runs(t, script, want)
}

// An error is the first one: that of a line ahead of those behind, and any of a line's form ahead of a choice that is done.
func TestRunErrors(t *testing.T) {
	for _, c := range []struct {
		script string
		line   int
		e      api.Errno
	}{
		// no open line
		{"", 0, api.ErrForm}, {"\n", 0, api.ErrForm}, {"\n\n;\n; open\n", 0, api.ErrForm}, {";" + opened, 0, api.ErrForm},
		// another line first
		{"tick", 1, api.ErrForm}, {"tick\n" + opened, 1, api.ErrForm}, {"\n;\nreply\n" + opened, 3, api.ErrForm}, {" \n" + opened, 1, api.ErrForm}, {" ;\n" + opened, 1, api.ErrForm},
		// an open line that is none
		{"open|", 1, api.ErrForm}, {"open|nodes=x", 1, api.ErrForm}, {"open|nodes=0", 1, api.ErrForm}, {"open|blocks=40|nodes=1", 1, api.ErrForm}, {"Open", 1, api.ErrForm}, {"open|nodes=1|blocks=40|journal=20|inodes=8|node=1", 1, api.ErrForm}, {"open\r\n", 1, api.ErrForm},
		// a cluster that is none
		{"open", 1, api.ErrArg}, {"open|nodes=2|blocks=40|journal=20|inodes=8", 1, api.ErrArg}, {"open|nodes=9|blocks=4", 1, api.ErrArg}, {"open|nodes=1099511627776", 1, api.ErrArg}, {"open|nodes=1", 1, api.ErrShape}, {"\n;\nopen|nodes=7|blocks=40|journal=19|inodes=8", 3, api.ErrShape},
		{"open|nodes=2\nx\n", 1, api.ErrArg}, {"open|nodes=1\n\nopen", 1, api.ErrShape},
		// lines behind it
		{opened + "x", 2, api.ErrForm}, {opened + "\n;\ntick|node=0\ny", 4, api.ErrForm}, {opened + opened, 2, api.ErrForm}, {opened + "reply", 2, api.ErrForm}, {opened + "tick\r\n", 2, api.ErrForm}, {opened + "tick\n ", 3, api.ErrForm}, {opened + "tick\n|", 3, api.ErrForm},
		{opened + "tick|node=1\n\nx", 4, api.ErrForm}, {opened + "call|op=stat\nopen", 3, api.ErrForm},
		// choices
		{opened + "tick\n\ntick|node=1", 4, api.ErrArg}, {opened + "tick|node=1\ntick|node=2", 2, api.ErrArg}, {opened + "crash|torn=1025", 2, api.ErrArg}, {opened + "call|node=1|op=stat", 2, api.ErrArg},
		{opened + "call|op=stat\n;\ncall|op=list", 4, api.ErrState}, {opened + "call|op=stat\ncall|op=list|path=/\ntick|node=1", 3, api.ErrState},
	} {
		fails(t, c.script, c.line, c.e)
	}
}

func TestRunLong(t *testing.T) {
	lines := func(n int) string { return opened + strings.Repeat("tick\n", n-1) }
	runs(t, lines(MaxLines), "")
	runs(t, strings.TrimSuffix(lines(MaxLines), "\n"), "")
	fails(t, lines(MaxLines)+"\n", 0, api.ErrLong)
	fails(t, lines(MaxLines)+";", 0, api.ErrLong)
	fails(t, lines(MaxLines+1), 0, api.ErrLong)
	fails(t, strings.Repeat("\n", MaxLines), 0, api.ErrForm)
	fails(t, strings.Repeat("\n", MaxLines)+"x", 0, api.ErrLong)
	fails(t, strings.Repeat("\n", MaxLines+1), 0, api.ErrLong)
	fails(t, strings.Repeat("x\n", MaxLines), 1, api.ErrForm)
	fails(t, strings.Repeat("x\n", MaxLines+1), 0, api.ErrLong)
	padded := func(n int) string { return opened + ";" + strings.Repeat("x", n-len(opened)-1) }
	runs(t, padded(50000), "")
	fails(t, padded(50001), 0, api.ErrLong)
	fails(t, strings.Repeat("x", 50000), 1, api.ErrForm)
	fails(t, strings.Repeat("x", 50001), 0, api.ErrLong)
	fails(t, opened+"x\n"+strings.Repeat(";", 50000), 0, api.ErrLong)
	fails(t, strings.Repeat("x", 1<<20), 0, api.ErrLong)
}

// someLine is a choice that a line says and a cluster of three nodes does.
func someLine(r *source, req int) string {
	node := []string{"", "|node=1", "|node=2"}[r.next(3)]
	switch r.next(12) {
	case 0, 1:
		op := []string{"create|path=/a", "mkdir|path=/d", "write|at=5|path=/a|data=x%00", "list|path=/", "stat|path=/a", "read|n=9|path=/a", "rmdir|path=/d", "rename|path=/a|to=/b"}[req%8]
		return "call" + node + "|client=1|req=" + strconv.Itoa(req) + "|op=" + op
	case 2, 3, 4:
		return "deliver" + []string{"", "|n=1", "|n=2"}[r.next(3)]
	case 5:
		return "tick" + node
	case 6:
		return "flush" + node
	case 7:
		return []string{"drop", "twice", "twice|n=1", "crash" + node + "|n=3|torn=1"}[r.next(4)]
	case 8:
		return "start" + node
	default:
		return "work" + node
	}
}

// someScript is one with some lines; with remarks and empty lines, if it is asked for them.
func someScript(seed int, remarks bool) string {
	r := &source{uint32(seed)}
	script := three
	for i := range 900 {
		if remarks && i%4 == 0 {
			script = "; " + strconv.Itoa(i) + "\n" + script + "\n"
		}
		script += someLine(r, 1+i/60) + "\n"
	}
	return script
}

// plain are the replies' lines of a script's choices, done to a cluster one by one.
func plain(t *testing.T, script string) string {
	t.Helper()
	c, e := cluster.New(3, api.Shape{Blocks: 44, Journal: 20, Inodes: 8})
	if e != api.OK {
		t.Fatal(e)
	}
	out := ""
	for _, line := range strings.Split(tabs(script), "\n") {
		if line == "" || line[0] == ';' || strings.HasPrefix(line, "open") {
			continue
		}
		x, e := Choice(line)
		if e != api.OK {
			t.Fatalf("%q: %v", line, e)
		}
		l, e := c.Step(x)
		if e != api.OK {
			t.Fatalf("%q: %v", line, e)
		}
		for _, r := range l {
			s, e := Reply(r)
			if e != api.OK {
				t.Fatalf("%+v: %v", r, e)
			}
			out += s + "\n"
		}
	}
	return out
}

// 28.4
func TestScripts(t *testing.T) {
	told, done := 0, 0
	for seed := range 60 {
		script := someScript(seed, false)
		want := plain(t, script)
		runs(t, script, want)
		runs(t, strings.TrimSuffix(script, "\n"), want)
		runs(t, someScript(seed, true), want)
		for _, line := range strings.Split(strings.TrimSuffix(want, "\n"), "\n") {
			if line == "" {
				continue
			}
			r, e := Replied(line)
			if e != api.OK {
				t.Fatalf("%q: %v", line, e)
			}
			told++
			if r.Result.E != api.ErrState {
				done++
			}
		}
	}
	if told < 1000 || done < 100 {
		t.Errorf("%d replies, %d without refusal", told, done)
	}
}

// P1: whatever a script is, it ends, and tells one error or none.
func TestSpoiltScripts(t *testing.T) {
	r := &source{7}
	seen := map[api.Errno]int{}
	for i := range 300 {
		lines := strings.SplitAfter(tabs(someScript(i, false)), "\n")[:40]
		for range r.next(3) {
			at := r.next(len(lines))
			lines[at] = spoilt(r, lines[at])
		}
		script := strings.Join(lines, "")
		s, line, e := Run(script)
		seen[e]++
		if many := strings.Count(script, "\n") + 1; e != api.OK && s != "" || line < 0 || line > many || e == api.OK && line != 0 {
			t.Fatalf("%q: %q, %d, %v", script, s, line, e)
		}
		again, n, f := Run(script)
		if again != s || n != line || f != e {
			t.Fatalf("%q: %q, %d, %v; %q, %d, %v", script, s, line, e, again, n, f)
		}
	}
	if seen[api.OK] < 20 || seen[api.ErrForm] < 20 {
		t.Errorf("%v", seen)
	}
}
