package path

import (
	"slices"
	"strings"
	"testing"

	"cartulary/api"
)

// source is a row of numbers that is the same in every run.
type source struct{ x uint32 }

func (s *source) next(n int) int {
	s.x = s.x*1664525 + 1013904223
	return int(s.x>>8) % n
}

// of is a name of so many bytes.
func of(bytes int) string { return strings.Repeat("n", bytes) }

// deep is a path of so many names.
func deep(names int) string { return strings.Repeat("/d", names) }

// nameError tells what is wrong with a name, byte by byte.
func nameError(s string) api.Errno {
	bad := s == "" || s == "." || s == ".."
	for i := 0; i < len(s); i++ {
		bad = bad || s[i] == '/' || s[i] == 0
	}
	switch {
	case bad:
		return api.Invalid
	case len(s) > 24:
		return api.LongName
	}
	return api.OK
}

// plain goes through a path byte by byte: its names, and what is wrong with it.
func plain(p string) ([]string, api.Errno) {
	if p == "/" {
		return nil, api.OK
	}
	if p == "" || p[0] != '/' {
		return nil, api.Invalid
	}
	names, name := []string{}, []byte{}
	for i := 1; i <= len(p); i++ {
		if i < len(p) && p[i] != '/' {
			name = append(name, p[i])
			continue
		}
		if e := nameError(string(name)); e != api.OK {
			return nil, e
		}
		names, name = append(names, string(name)), nil
	}
	if len(names) > 8 {
		return nil, api.LongName
	}
	return names, api.OK
}

// checkPath holds all calls of one path against what it is (13.1 to 13.3).
func checkPath(t *testing.T, p string) {
	t.Helper()
	want, wrong := plain(p)
	names, e := Split(p)
	if !slices.Equal(names, want) || e != wrong || e != api.OK && len(names) > 0 {
		t.Errorf("Split(%q): %q, %v, want %q, %v", p, names, e, want, wrong)
		return
	}
	up, last, f := Parent(p)
	if e != api.OK {
		if up != "" || last != "" || f != e {
			t.Errorf("Parent(%q): %q, %q, %v, want %v", p, up, last, f, e)
		}
		return
	}
	if back, e := Join(names); back != p || e != api.OK {
		t.Errorf("Join(%q): %q, %v, want %q", names, back, e, p)
	}
	if self, e := Below(p, p); self || e != api.OK {
		t.Errorf("Below(%q, %q): %v, %v", p, p, self, e)
	}
	if len(names) == 0 {
		if up != "" || last != "" || f != api.Invalid {
			t.Errorf("Parent(%q): %q, %q, %v", p, up, last, f)
		}
		return
	}
	if at := strings.LastIndexByte(p, '/'); up != p[:max(at, 1)] || last != p[at+1:] || f != api.OK {
		t.Errorf("Parent(%q): %q, %q, %v", p, up, last, f)
	}
	if is, e := Below(p, up); !is || e != api.OK {
		t.Errorf("Below(%q, %q): %v, %v", p, up, is, e)
	}
	if is, e := Below(up, p); is || e != api.OK {
		t.Errorf("Below(%q, %q): %v, %v", up, p, is, e)
	}
}

// 13.1: names at their edges, and what is wrong ahead of their length.
func TestName(t *testing.T) {
	for s, want := range map[string]api.Errno{
		"a": api.OK, "...": api.OK, ".a": api.OK, "a.": api.OK, "..a": api.OK, " ": api.OK, "\x01": api.OK, "\xff": api.OK, "\\": api.OK,
		of(24): api.OK, of(25): api.LongName, of(1000): api.LongName, strings.Repeat(".", 24): api.OK, strings.Repeat(".", 25): api.LongName,
		"": api.Invalid, ".": api.Invalid, "..": api.Invalid, "/": api.Invalid, "\x00": api.Invalid, "a/": api.Invalid, "/a": api.Invalid, "a/b": api.Invalid, "a\x00": api.Invalid, "\x00a": api.Invalid,
		of(25) + "/": api.Invalid, of(25) + "\x00": api.Invalid, "/" + of(30): api.Invalid, "\x00" + of(30): api.Invalid, of(12) + "\x00" + of(12): api.Invalid,
		// Letters of more than one byte count by their bytes.
		strings.Repeat("\u00e9", 12): api.OK, strings.Repeat("\u00e9", 12) + "a": api.LongName, strings.Repeat("\u20ac", 8): api.OK, strings.Repeat("\u20ac", 9): api.LongName, "\U0001f600": api.OK,
		// Bytes that begin a letter and are not followed by its others pass over nothing.
		"\xe2/": api.Invalid, "\xe2\x82/": api.Invalid, "\xe2\x00": api.Invalid, "\xf0\x9f\x98\x00": api.Invalid, "\xc3/a": api.Invalid, "\xff\x00": api.Invalid, "\xc0\xaf": api.OK, "\xc0\x80": api.OK, "\uff0f": api.OK, "\u2215": api.OK,
	} {
		if e := Name(s); e != want || e != nameError(s) {
			t.Errorf("Name(%q): %v, want %v", s, e, want)
		}
	}
}

// texts are all texts of up to so many of the bytes.
func texts(bytes string, most int) []string {
	all, from := []string{""}, 0
	for range most {
		end := len(all)
		for ; from < end; from++ {
			for i := range len(bytes) {
				all = append(all, all[from]+bytes[i:i+1])
			}
		}
	}
	return all
}

// 13.1 to 13.3: every short text, as a name and as a path.
func TestShort(t *testing.T) {
	for _, s := range texts("/a.\x00\xc3", 6) {
		if e := Name(s); e != nameError(s) {
			t.Errorf("Name(%q): %v", s, e)
		}
		checkPath(t, s)
		checkPath(t, "/"+s)
	}
	for b := range 256 {
		s := string([]byte{byte(b)})
		for _, p := range []string{s, "/" + s, "/x" + s, "/x/" + s + "y", s + "/x"} {
			checkPath(t, p)
		}
		if e := Name(s); e != nameError(s) {
			t.Errorf("Name(%q): %v", s, e)
		}
	}
}

// 13.1: of several things that are wrong with a path the first from left to right is told, and how many names there are behind all of them.
func TestSplitErrors(t *testing.T) {
	for p, want := range map[string]api.Errno{
		"": api.Invalid, "a": api.Invalid, "a/b": api.Invalid, of(30): api.Invalid, "\x00/a": api.Invalid, of(30) + "/" + of(30): api.Invalid,
		"//": api.Invalid, "///": api.Invalid, "/a/": api.Invalid, "/a//b": api.Invalid, "//a": api.Invalid, "/.": api.Invalid, "/..": api.Invalid, "/a/.": api.Invalid, "/a/../b": api.Invalid, "/\x00": api.Invalid,
		"/" + of(24): api.OK, "/" + of(25): api.LongName, "/a/" + of(25) + "/b": api.LongName,
		"/" + of(25) + "/": api.LongName, "/" + of(25) + "/.": api.LongName, "/" + of(25) + "//" + of(25): api.LongName, "/" + of(25) + "/\x00": api.LongName,
		"//" + of(25): api.Invalid, "/./" + of(25): api.Invalid, "/\x00/" + of(25): api.Invalid, "/" + of(25) + "\x00": api.Invalid,
		deep(8): api.OK, deep(9): api.LongName, deep(1000): api.LongName, deep(8) + "/": api.Invalid, deep(9) + "/": api.Invalid, deep(9) + "/.": api.Invalid, deep(20) + "/\x00": api.Invalid, deep(20) + "/" + of(25): api.LongName,
		deep(7) + "/" + of(24): api.OK, strings.Repeat("/"+of(24), 8): api.OK, strings.Repeat("/"+of(24), 9): api.LongName,
	} {
		if _, e := Split(p); e != want {
			t.Errorf("Split(%q): %v, want %v", p, e, want)
		}
		checkPath(t, p)
	}
}

// 13.1 and R2: lists of names; the first that is none counts ahead of how many there are.
func TestJoin(t *testing.T) {
	many := func(n int, last ...string) []string { return append(slices.Repeat([]string{"d"}, n), last...) }
	for _, c := range []struct {
		names []string
		want  string
		e     api.Errno
	}{
		{nil, "/", api.OK}, {[]string{}, "/", api.OK}, {[]string{"a"}, "/a", api.OK}, {[]string{"a", "b"}, "/a/b", api.OK}, {[]string{of(24), "..."}, "/" + of(24) + "/...", api.OK},
		{many(8), deep(8), api.OK}, {many(9), "", api.LongName}, {many(500), "", api.LongName},
		{[]string{""}, "", api.Invalid}, {[]string{"."}, "", api.Invalid}, {[]string{"a", ".."}, "", api.Invalid}, {[]string{"a/b"}, "", api.Invalid}, {[]string{"/a"}, "", api.Invalid}, {[]string{"a\x00"}, "", api.Invalid},
		{[]string{of(25)}, "", api.LongName}, {[]string{of(25), ""}, "", api.LongName}, {[]string{"", of(25)}, "", api.Invalid}, {[]string{"a", of(25), "."}, "", api.LongName},
		{many(8, ""), "", api.Invalid}, {many(9, "."), "", api.Invalid}, {many(9, "a/b"), "", api.Invalid}, {many(30, of(25), ""), "", api.LongName}, {many(30, "", of(25)), "", api.Invalid},
	} {
		kept := slices.Clone(c.names)
		if p, e := Join(c.names); p != c.want || e != c.e {
			t.Errorf("Join(%q): %q, %v, want %q, %v", c.names, p, e, c.want, c.e)
		}
		if !slices.Equal(c.names, kept) {
			t.Errorf("Join changed %q to %q", kept, c.names)
		}
	}
}

// 13.3: Split undoes Join, of every list of names.
func TestUndone(t *testing.T) {
	s := &source{1}
	for range 3000 {
		names := []string{}
		for range s.next(9) {
			names = append(names, texts("ab.", 3)[1+s.next(39)])
		}
		p, e := Join(names)
		if e != api.OK {
			if !slices.ContainsFunc(names, func(n string) bool { return nameError(n) != api.OK }) {
				t.Errorf("Join(%q): %v", names, e)
			}
			continue
		}
		if back, e := Split(p); !slices.Equal(back, names) || e != api.OK {
			t.Errorf("Split(%q): %q, %v, want %q", p, back, e, names)
		}
		checkPath(t, p)
	}
}

// 13.2: the examples and edges of Parent.
func TestParent(t *testing.T) {
	for _, c := range []struct{ p, up, last string }{
		{"/a", "/", "a"}, {"/a/bc", "/a", "bc"}, {"/a/b/c", "/a/b", "c"}, {"/a/a", "/a", "a"}, {"/...", "/", "..."}, {deep(8), deep(7), "d"}, {"/" + of(24), "/", of(24)},
	} {
		if up, last, e := Parent(c.p); up != c.up || last != c.last || e != api.OK {
			t.Errorf("Parent(%q): %q, %q, %v", c.p, up, last, e)
		}
	}
	for p, want := range map[string]api.Errno{"/": api.Invalid, "": api.Invalid, "a": api.Invalid, "/a/": api.Invalid, "/" + of(25): api.LongName, deep(9): api.LongName, deep(9) + "/": api.Invalid} {
		if up, last, e := Parent(p); up != "" || last != "" || e != want {
			t.Errorf("Parent(%q): %q, %q, %v", p, up, last, e)
		}
	}
}

// 13.2: names, not texts, are what a path has of another one.
func TestBelow(t *testing.T) {
	for _, c := range []struct {
		p, of string
		want  bool
	}{
		{"/a/b", "/a", true}, {"/a/b/c", "/a", true}, {"/a/b/c", "/a/b", true}, {"/a", "/", true}, {deep(8), "/", true}, {deep(8), deep(7), true}, {deep(8), deep(1), true},
		{"/a", "/a", false}, {"/", "/", false}, {"/", "/a", false}, {"/a", "/a/b", false}, {"/ab", "/a", false}, {"/ab/c", "/a", false}, {"/a/bc", "/a/b", false}, {"/b/a", "/a", false}, {"/a/b", "/b", false}, {"/a/c/d", "/a/b", false}, {"/a.", "/a", false}, {deep(7), deep(8), false},
	} {
		if is, e := Below(c.p, c.of); is != c.want || e != api.OK {
			t.Errorf("Below(%q, %q): %v, %v", c.p, c.of, is, e)
		}
	}
}

// 13.2, R1 and R4: p's error comes ahead of that of of.
func TestBelowErrors(t *testing.T) {
	paths := []string{"", "a", "/a/", "/" + of(25), "/" + of(25) + "/.", deep(9), deep(9) + "/", "/", "/a", deep(8)}
	for _, p := range paths {
		for _, of := range paths {
			_, want := plain(p)
			if want == api.OK {
				_, want = plain(of)
			}
			if is, e := Below(p, of); e != want || e != api.OK && is {
				t.Errorf("Below(%q, %q): %v, %v, want %v", p, of, is, e, want)
			}
		}
	}
}

// ahead tells whether a stands ahead of b, by the document's words.
func ahead(a, b []string) bool {
	for i := range a {
		if i >= len(b) {
			return false
		}
		for j := 0; j < len(a[i]) || j < len(b[i]); j++ {
			if j >= len(a[i]) || j >= len(b[i]) {
				return j >= len(a[i])
			}
			if a[i][j] != b[i][j] {
				return a[i][j] < b[i][j]
			}
		}
	}
	return len(a) < len(b)
}

// 13.2 and R2: lists of any texts, at most one of each two ahead of the other, and one of them unless they are the same.
func TestLess(t *testing.T) {
	words := []string{"", "a", "b", "ab", "a!", "a/", "A", "\x00", "\xff", "\xc3\xa9", of(30), ".."}
	lists := [][]string{nil, {}}
	for _, x := range words {
		lists = append(lists, []string{x})
		for _, y := range words {
			lists = append(lists, []string{x, y}, []string{x, y, "a"})
		}
	}
	for _, a := range lists {
		for _, b := range lists {
			is := Less(a, b)
			if is != ahead(a, b) {
				t.Errorf("Less(%q, %q): %v", a, b, is)
			}
			if same := slices.Equal(a, b); same == (is || Less(b, a)) || is && Less(b, a) {
				t.Errorf("Less(%q, %q) and back: %v", a, b, is)
			}
		}
	}
	if !Less([]string{"a", "z"}, []string{"a!"}) || !Less([]string{"a"}, []string{"a", ""}) || Less([]string{"b"}, []string{"a", "c"}) || Less(nil, []string{}) || !Less([]string{"Z"}, []string{"a"}) || !Less([]string{"z"}, []string{"\xff"}) {
		t.Error("Less")
	}
}

// R3: names that were told are nobody else's; names that are handed in stay, spare room too.
func TestMemory(t *testing.T) {
	first, _ := Split("/a/b")
	first[0] = "x"
	first = append(first, "y")
	if second, _ := Split("/a/b"); second[0] != "a" || len(first) != 3 {
		t.Errorf("Split: %q", second)
	}
	room := []string{"a", "b", "c", "d"}
	Join(room[:2])
	Less(room[:2], room[:3])
	if !slices.Equal(room, []string{"a", "b", "c", "d"}) {
		t.Errorf("%q", room)
	}
}

// P1: texts of any bytes and lengths.
func TestTotal(t *testing.T) {
	s := &source{2}
	for range 20000 {
		b := make([]byte, s.next(60))
		for i := range b {
			b[i] = "/a.\x00\xe2\x82\xacn"[s.next(8)]
		}
		checkPath(t, string(b))
		checkPath(t, "/"+strings.ReplaceAll(string(b), "\x00", "b"))
	}
	for _, p := range []string{strings.Repeat("/", 1<<20), strings.Repeat("/a", 1<<20), strings.Repeat("a", 1<<20), "/" + strings.Repeat("a", 1<<20), "/" + strings.Repeat("\xff", 1<<20)} {
		checkPath(t, p)
	}
}
