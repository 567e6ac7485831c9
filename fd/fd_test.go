package fd

import (
	"math"
	"slices"
	"strings"
	"testing"

	"cartulary/api"
	"cartulary/path"
)

// source is a source of numbers, always the same ones.
type source uint32

func (x *source) next(n int) int {
	*x = *x*1664525 + 1013904223
	return int(*x>>8) % n
}

// notDescriptors are numbers that no table has.
var notDescriptors = []int{math.MinInt, -MaxOpen, -1, MaxOpen, MaxOpen + 1, 1 << 32, math.MaxInt}

func open(t *testing.T, x *Table, p string, want int) {
	t.Helper()
	if fd, e := x.Open(p); fd != want || e != api.OK {
		t.Fatalf("Open(%q): %d, %v; want %d", p, fd, e, want)
	}
}

func notOpened(t *testing.T, x *Table, p string, want api.Errno) {
	t.Helper()
	if fd, e := x.Open(p); fd != 0 || e != want {
		t.Errorf("Open(%q): %d, %v; want %v", p, fd, e, want)
	}
}

// full is a table with all descriptors open.
func full(t *testing.T) *Table {
	t.Helper()
	x := New()
	for i := range MaxOpen {
		open(t, x, "/a", i)
	}
	return x
}

func told(t *testing.T, what string, e, want api.Errno) {
	t.Helper()
	if e != want {
		t.Fatalf("%s: %v; want %v", what, e, want)
	}
}

func seek(t *testing.T, x *Table, fd, from, by, want int) {
	t.Helper()
	if at, e := x.Seek(fd, from, by); at != want || e != api.OK {
		t.Fatalf("Seek(%d, %d, %d): %d, %v; want %d", fd, from, by, at, e, want)
	}
	_, at, _ := x.At(fd)
	if at != want {
		t.Fatalf("At(%d) behind Seek(%d, %d): %d", fd, from, by, at)
	}
}

func checkAt(t *testing.T, x *Table, fd int, p string, place int) {
	t.Helper()
	if s, at, e := x.At(fd); s != p || at != place || e != api.OK {
		t.Fatalf("At(%d): %q, %d, %v; want %q, %d", fd, s, at, e, p, place)
	}
}

func checkList(t *testing.T, x *Table, want ...int) {
	t.Helper()
	if l := x.List(); !slices.Equal(l, want) {
		t.Fatalf("List: %v; want %v", l, want)
	}
}

// checkClosed tells of each call that fd is not open, ahead of whatever else is wrong.
func checkClosed(t *testing.T, x *Table, fd int) {
	t.Helper()
	told(t, "Close", x.Close(fd), api.BadFile)
	for _, n := range []int{math.MinInt, -1, 0, 1, api.MaxData + 1, api.MaxSize + 1, math.MaxInt} {
		for _, by := range []int{math.MinInt, -1, 0, math.MaxInt} {
			if at, e := x.Seek(fd, n, by); at != 0 || e != api.BadFile {
				t.Errorf("Seek(%d, %d, %d): %d, %v", fd, n, by, at, e)
			}
		}
		if op, e := x.Next(fd, n); op != (api.Op{}) || e != api.BadFile {
			t.Errorf("Next(%d, %d): %v, %v", fd, n, op, e)
		}
		told(t, "Moved", x.Moved(fd, n), api.BadFile)
	}
	for _, n := range []int{0, 1, api.MaxData, api.MaxData + 1} {
		if op, e := x.Write(fd, strings.Repeat("x", n)); op != (api.Op{}) || e != api.BadFile {
			t.Errorf("Write(%d, %d bytes): %v, %v", fd, n, op, e)
		}
	}
	if p, at, e := x.At(fd); p != "" || at != 0 || e != api.BadFile {
		t.Errorf("At(%d): %q, %d, %v", fd, p, at, e)
	}
}

func TestExample(t *testing.T) {
	x := New()
	open(t, x, "/a", 0)
	told(t, "Moved", x.Moved(0, 5), api.OK)
	if op, e := x.Next(0, 3); op != (api.Op{Kind: api.OpRead, Path: "/a", At: 5, N: 3}) || e != api.OK {
		t.Errorf("Next: %v, %v", op, e)
	}
	seek(t, x, 0, 2, -1, 1)
	told(t, "Close", x.Close(0), api.OK)
	if op, e := x.Next(0, 3); op != (api.Op{}) || e != api.BadFile {
		t.Errorf("Next: %v, %v", op, e)
	}
}

// 19.1

func TestNew(t *testing.T) {
	x := New()
	if x == nil {
		t.Fatal("New is nil")
	}
	checkList(t, x)
	for fd := range MaxOpen {
		checkClosed(t, x, fd)
	}
	for _, fd := range notDescriptors {
		checkClosed(t, x, fd)
	}
}

func TestMaxOpen(t *testing.T) {
	if MaxOpen != 16 {
		t.Error(MaxOpen)
	}
}

// wrongPaths are texts that are no paths, each with what is wrong with it.
func wrongPaths() map[string]api.Errno {
	long := strings.Repeat("n", api.MaxName+1)
	return map[string]api.Errno{
		"": api.Invalid, "a": api.Invalid, "a/b": api.Invalid, "//": api.Invalid, "/a/": api.Invalid, "/.": api.Invalid, "/a/..": api.Invalid,
		"/a\x00": api.Invalid, "/" + long: api.LongName, "/" + long + "/.": api.LongName, "/./" + long: api.Invalid,
		strings.Repeat("/a", api.MaxDepth+1): api.LongName,
	}
}

func TestOpenWrong(t *testing.T) {
	some := New()
	open(t, some, "/a", 0)
	for p, want := range wrongPaths() {
		if _, e := path.Split(p); e != want {
			t.Fatalf("Split(%q): %v", p, e)
		}
		// What is wrong with the path comes ahead of what is full.
		notOpened(t, New(), p, want)
		notOpened(t, some, p, want)
		notOpened(t, full(t), p, want)
		notOpened(t, nil, p, want)
	}
	checkList(t, some, 0)
	checkAt(t, some, 0, "/a", 0)
	open(t, some, "/b", 1)
}

func TestOpenEdges(t *testing.T) {
	x := New()
	name := "/" + strings.Repeat("n", api.MaxName)
	for i, p := range []string{"/", "/a", name, strings.Repeat("/a", api.MaxDepth), strings.Repeat(name, api.MaxDepth), "/\xff\x01"} {
		open(t, x, p, i)
		checkAt(t, x, i, p, 0)
	}
}

func TestOpenFull(t *testing.T) {
	x := New()
	want := []int{}
	for i := range MaxOpen {
		checkList(t, x, want...)
		checkClosed(t, x, i)
		// One path may be open more than once.
		open(t, x, []string{"/a", "/b"}[i%2], i)
		want = append(want, i)
	}
	checkList(t, x, want...)
	for range 2 {
		notOpened(t, x, "/c", api.ErrFull)
	}
	checkList(t, x, want...)
	for _, fd := range notDescriptors {
		checkClosed(t, x, fd)
	}
	for i := range MaxOpen {
		checkAt(t, x, i, []string{"/a", "/b"}[i%2], 0)
	}
}

func TestOpenLeast(t *testing.T) {
	x := full(t)
	for _, fd := range []int{15, 3, 0, 7} {
		told(t, "Close", x.Close(fd), api.OK)
	}
	checkList(t, x, 1, 2, 4, 5, 6, 8, 9, 10, 11, 12, 13, 14)
	for _, fd := range []int{0, 3, 7, 15} {
		open(t, x, "/b", fd)
	}
	notOpened(t, x, "/b", api.ErrFull)
}

// Each of the descriptors can be closed and opened again, and begins anew.
func TestClose(t *testing.T) {
	for fd := range MaxOpen {
		x := full(t)
		seek(t, x, fd, 100, 0, 100)
		told(t, "Close", x.Close(fd), api.OK)
		checkClosed(t, x, fd)
		if slices.Contains(x.List(), fd) || len(x.List()) != MaxOpen-1 {
			t.Errorf("List: %v", x.List())
		}
		open(t, x, "/b", fd)
		for i := range MaxOpen {
			checkAt(t, x, i, map[bool]string{true: "/b", false: "/a"}[i == fd], 0)
		}
	}
}

func TestListIsNew(t *testing.T) {
	x := New()
	for i := range 3 {
		open(t, x, "/a", i)
	}
	l := x.List()
	m := x.List()
	l[0], l[2] = 9, 9
	l = l[:cap(l)]
	for i := range l {
		l[i] = 9
	}
	checkList(t, x, 0, 1, 2)
	if !slices.Equal(m, []int{0, 1, 2}) {
		t.Errorf("two lists share memory: %v", m)
	}
}

func TestTablesApart(t *testing.T) {
	x, y := New(), New()
	open(t, x, "/a", 0)
	checkList(t, y)
	open(t, y, "/b", 0)
	seek(t, y, 0, 5, 0, 5)
	checkAt(t, x, 0, "/a", 0)
	told(t, "Close", x.Close(0), api.OK)
	checkAt(t, y, 0, "/b", 5)
}

// 19.2

func TestSeek(t *testing.T) {
	x := New()
	open(t, x, "/a", 0)
	open(t, x, "/b", 1)
	most := api.MaxSize
	for _, l := range [][3]int{{0, 0, 0}, {0, 1, 1}, {1, -1, 0}, {0, most, most}, {most, 0, most}, {most, -most, 0}, {most, -1, most - 1}, {most - 1, 1, most}, {5, 6, 11}, {5, -3, 2}} {
		seek(t, x, 1, l[0], l[1], l[2])
		// The place is where from and by say, wherever it was.
		seek(t, x, 1, l[0], l[1], l[2])
	}
	checkAt(t, x, 0, "/a", 0)
	checkAt(t, x, 1, "/b", 2)
}

func TestSeekWrong(t *testing.T) {
	x := New()
	open(t, x, "/a", 0)
	seek(t, x, 0, 7, 0, 7)
	most := api.MaxSize
	wrong := [][2]int{
		{0, -1}, {1, -2}, {most, -most - 1}, {0, most + 1}, {1, most}, {most, 1}, {most - 1, 2},
		{0, math.MaxInt}, {1, math.MaxInt}, {most, math.MaxInt}, {0, math.MinInt}, {1, math.MinInt}, {most, math.MinInt},
		{0, 1 << 32}, {5, -1 << 32}, {5, 1<<63 - 5}, {5, -1<<63 + 5},
	}
	// A from out of its range is wrong, also where both together are not.
	for _, from := range []int{math.MinInt, -most, -1, most + 1, 2 * most, math.MaxInt} {
		wrong = append(wrong, [2]int{from, 0}, [2]int{from, -from}, [2]int{from, 1}, [2]int{from, -1}, [2]int{from, 5 - from}, [2]int{from, math.MinInt}, [2]int{from, math.MaxInt})
	}
	for _, l := range wrong {
		if at, e := x.Seek(0, l[0], l[1]); at != 0 || e != api.Invalid {
			t.Errorf("Seek(0, %d, %d): %d, %v", l[0], l[1], at, e)
		}
		checkAt(t, x, 0, "/a", 7)
	}
}

func TestNext(t *testing.T) {
	x := New()
	open(t, x, "/a", 0)
	open(t, x, "/b", 1)
	for _, at := range []int{0, 1, 500, api.MaxSize - 1, api.MaxSize} {
		seek(t, x, 1, at, 0, at)
		for _, n := range []int{0, 1, 2, api.MaxData - 1, api.MaxData} {
			want := api.Op{Kind: api.OpRead, Path: "/b", At: at, N: n}
			if op, e := x.Next(1, n); op != want || e != api.OK {
				t.Errorf("Next(1, %d) at %d: %v, %v", n, at, op, e)
			}
			checkAt(t, x, 1, "/b", at)
		}
		for _, n := range []int{math.MinInt, -1, api.MaxData + 1, api.MaxSize, math.MaxInt} {
			if op, e := x.Next(1, n); op != (api.Op{}) || e != api.Invalid {
				t.Errorf("Next(1, %d): %v, %v", n, op, e)
			}
			checkAt(t, x, 1, "/b", at)
		}
	}
}

func TestWrite(t *testing.T) {
	x := New()
	open(t, x, "/a", 0)
	open(t, x, "/b", 1)
	for _, at := range []int{0, 1, 500, api.MaxSize - 1, api.MaxSize} {
		seek(t, x, 1, at, 0, at)
		for _, data := range []string{"", "x", "a\x00\xff/", strings.Repeat("x", api.MaxData-1), strings.Repeat("y", api.MaxData)} {
			want := api.Op{Kind: api.OpWrite, Path: "/b", At: at, Data: data}
			if op, e := x.Write(1, data); op != want || e != api.OK {
				t.Errorf("Write(1, %d bytes) at %d: %v, %v", len(data), at, op, e)
			}
			checkAt(t, x, 1, "/b", at)
		}
		for _, n := range []int{api.MaxData + 1, 2 * api.MaxData, api.MaxSize} {
			if op, e := x.Write(1, strings.Repeat("x", n)); op != (api.Op{}) || e != api.Invalid {
				t.Errorf("Write(1, %d bytes): %v, %v", n, op.Kind, e)
			}
			checkAt(t, x, 1, "/b", at)
		}
	}
}

func TestMoved(t *testing.T) {
	x := New()
	open(t, x, "/a", 0)
	open(t, x, "/b", 1)
	at := 0
	for _, n := range []int{0, 1, 5, api.MaxData, 100000, api.MaxSize - 1030 - 100000 - 1, 1, 0} {
		for _, wrong := range []int{math.MinInt, -api.MaxSize, -1, api.MaxSize - at + 1, api.MaxSize + 1, math.MaxInt - at, math.MaxInt - at + 1, math.MaxInt} {
			told(t, "Moved", x.Moved(1, wrong), api.Invalid)
			checkAt(t, x, 1, "/b", at)
		}
		told(t, "Moved", x.Moved(1, n), api.OK)
		at += n
		checkAt(t, x, 1, "/b", at)
	}
	if at != api.MaxSize {
		t.Fatalf("the last place is %d", at)
	}
	checkAt(t, x, 0, "/a", 0)
	told(t, "Moved", x.Moved(0, api.MaxSize), api.OK)
	checkAt(t, x, 0, "/a", api.MaxSize)
}

func TestNil(t *testing.T) {
	var x *Table
	for _, p := range []string{"/", "/a", "/a/b"} {
		notOpened(t, x, p, api.ErrFull)
	}
	for fd := range MaxOpen {
		checkClosed(t, x, fd)
	}
	for _, fd := range notDescriptors {
		checkClosed(t, x, fd)
	}
	checkList(t, x)
}

// A table that New did not make has none open either.
func TestZero(t *testing.T) {
	x := &Table{}
	checkList(t, x)
	checkClosed(t, x, 0)
	open(t, x, "/a", 0)
	checkAt(t, x, 0, "/a", 0)
}

// 19.3

// plain is a table as the document says it: of each number that is open its path and its place.
type plain struct {
	paths  map[int]string
	places map[int]int
}

func (m plain) open(p string) (int, api.Errno) {
	if _, e := path.Split(p); e != api.OK {
		return 0, e
	}
	for fd := 0; fd < 16; fd++ {
		if _, is := m.paths[fd]; !is {
			m.paths[fd], m.places[fd] = p, 0
			return fd, api.OK
		}
	}
	return 0, api.ErrFull
}

func (m plain) close(fd int) api.Errno {
	if _, is := m.paths[fd]; !is {
		return api.BadFile
	}
	delete(m.paths, fd)
	delete(m.places, fd)
	return api.OK
}

// to changes a place to one that may be none.
func (m plain) to(fd, place int, wrong bool) api.Errno {
	if _, is := m.paths[fd]; !is {
		return api.BadFile
	}
	if wrong || place < 0 || place > 533248 {
		return api.Invalid
	}
	m.places[fd] = place
	return api.OK
}

func (m plain) compare(t *testing.T, x *Table) {
	t.Helper()
	want := []int{}
	for fd := -1; fd <= 17; fd++ {
		p, is := m.paths[fd]
		e := api.BadFile
		if is {
			want = append(want, fd)
			e = api.OK
		}
		if q, at, f := x.At(fd); q != p || at != m.places[fd] || f != e {
			t.Fatalf("At(%d): %q, %d, %v; want %q, %d, %v", fd, q, at, f, p, m.places[fd], e)
		}
	}
	if l := x.List(); !slices.Equal(l, want) {
		t.Fatalf("List: %v; want %v", l, want)
	}
}

// runStep does one call to both; reads and writes that are asked for move nothing.
func runStep(t *testing.T, x *Table, m plain, r *source) {
	t.Helper()
	paths := []string{"/", "/a", "/a/b", "/c", "/d/e/f", "a", "/a/"}
	fd := r.next(19) - 1
	switch r.next(8) {
	case 0, 1, 2:
		p := paths[r.next(len(paths))]
		n, e := x.Open(p)
		if wantN, wantE := m.open(p); n != wantN || e != wantE {
			t.Fatalf("Open(%q): %d, %v; want %d, %v", p, n, e, wantN, wantE)
		}
	case 3:
		told(t, "Close", x.Close(fd), m.close(fd))
	case 4:
		from, by := r.next(600000)-100, r.next(600000)-300000
		at, e := x.Seek(fd, from, by)
		want := m.to(fd, from+by, from < 0 || from > 533248)
		told(t, "Seek", e, want)
		if e == api.OK && at != from+by || e != api.OK && at != 0 {
			t.Fatalf("Seek(%d, %d, %d): %d", fd, from, by, at)
		}
	case 5:
		n := r.next(100000) - 1000
		told(t, "Moved", x.Moved(fd, n), m.to(fd, m.places[fd]+n, n < 0))
	case 6:
		x.Next(fd, r.next(1200)-50)
	case 7:
		x.Write(fd, strings.Repeat("x", r.next(1200)))
	}
}

func TestRun(t *testing.T) {
	r := source(19)
	for range 20 {
		x, m := New(), plain{map[int]string{}, map[int]int{}}
		for range 2000 {
			runStep(t, x, m, &r)
			m.compare(t, x)
		}
	}
}
