package dev

import (
	"math"
	"slices"
	"strings"
	"testing"

	"cartulary/api"
)

// of is blocks, one a letter.
func of(letters string) string {
	out := ""
	for i := range len(letters) {
		out += strings.Repeat(letters[i:i+1], api.BlockSize)
	}
	return out
}

func made(t *testing.T, blocks int) *Dev {
	t.Helper()
	d, e := New(blocks)
	if d == nil || e != api.OK {
		t.Fatalf("New(%d): %v", blocks, e)
	}
	return d
}

func mustWrite(t *testing.T, d *Dev, at int, letters string) {
	t.Helper()
	if e := d.Write(at, of(letters)); e != api.OK {
		t.Fatalf("Write(%d, %q): %v", at, letters, e)
	}
}

// check holds a device against its blocks as they are seen and as they last, a letter each (. is 0), and how many writes wait.
func check(t *testing.T, d *Dev, seen, lasts string, waits int) {
	t.Helper()
	seen, lasts = strings.ReplaceAll(seen, ".", "\x00"), strings.ReplaceAll(lasts, ".", "\x00")
	if d.Blocks() != len(seen) || d.Waits() != waits {
		t.Errorf("%d blocks, %d writes wait; want %d, %d", d.Blocks(), d.Waits(), len(seen), waits)
	}
	for i := range len(seen) {
		if got, e := d.Read(i); got != of(seen[i:i+1]) || e != api.OK {
			t.Errorf("Read(%d): %.3q, %v, want %q", i, got, e, seen[i])
		}
		if got, e := d.Lasts(i); got != of(lasts[i:i+1]) || e != api.OK {
			t.Errorf("Lasts(%d): %.3q, %v, want %q", i, got, e, lasts[i])
		}
	}
}

// 4.1: how many blocks there may be, and that all are 0 at first.
func TestNew(t *testing.T) {
	for _, blocks := range []int{1, 2, 3, 1023, 1024} {
		check(t, made(t, blocks), strings.Repeat(".", blocks), strings.Repeat(".", blocks), 0)
	}
	for _, blocks := range []int{0, -1, 1025, 1 << 32, 1<<32 + 1, math.MinInt, math.MaxInt} {
		if d, e := New(blocks); d != nil || e != api.ErrArg {
			t.Errorf("New(%d): %v, %v", blocks, d, e)
		}
	}
}

// 4.1: what was written is seen at once, and lasts when it was flushed.
func TestWrite(t *testing.T) {
	d := made(t, 4)
	mustWrite(t, d, 1, "ab")
	check(t, d, ".ab.", "....", 1)
	mustWrite(t, d, 2, "c")
	mustWrite(t, d, 0, "d")
	check(t, d, "dac.", "....", 3)
	d.Flush()
	check(t, d, "dac.", "dac.", 0)
	d.Flush()
	check(t, d, "dac.", "dac.", 0)
	mustWrite(t, d, 0, "efgh")
	check(t, d, "efgh", "dac.", 1)
	mustWrite(t, d, 1, "\x00")
	check(t, d, "e.gh", "dac.", 2)
	d.Flush()
	check(t, d, "e.gh", "e.gh", 0)
}

// 4.1: a block's bytes are those that were written, each in its place.
func TestBytes(t *testing.T) {
	data := make([]byte, 3*api.BlockSize)
	for i := range data {
		data[i] = byte(i*37 + i>>7)
	}
	d := made(t, 5)
	if e := d.Write(1, string(data)); e != api.OK {
		t.Fatal(e)
	}
	want := string(make([]byte, api.BlockSize)) + string(data) + string(make([]byte, api.BlockSize))
	for _, flushed := range []bool{false, true} {
		got := ""
		for i := range 5 {
			s, _ := d.Read(i)
			if flushed {
				s, _ = d.Lasts(i)
			}
			got += s
		}
		if got != want {
			t.Errorf("flushed %v: %x", flushed, got)
		}
		d.Flush()
	}
}

// 4.1 and R4: what is refused changes nothing; ErrForm goes ahead of ErrNone.
func TestWriteRefuses(t *testing.T) {
	d := made(t, 4)
	mustWrite(t, d, 0, "ab")
	d.Flush()
	mustWrite(t, d, 1, "c")
	places := []int{math.MinInt, -1, 0, 3, 4, math.MaxInt}
	for _, at := range places {
		for _, data := range []string{"", "a", strings.Repeat("a", 127), strings.Repeat("a", 129), strings.Repeat("a", 5*128+1)} {
			if e := d.Write(at, data); e != api.ErrForm {
				t.Errorf("Write(%d, %d bytes): %v", at, len(data), e)
			}
		}
	}
	for _, c := range []struct{ at, n int }{
		{-1, 1}, {-1, 2}, {-4, 8}, {4, 1}, {3, 2}, {0, 5}, {1, 4}, {5, 1}, {0, 2000}, {1024, 1},
		{math.MaxInt, 1}, {math.MaxInt, 2}, {math.MaxInt - 1, 4}, {math.MinInt, 1}, {math.MinInt, 4}, {math.MinInt + 1, 3},
	} {
		if e := d.Write(c.at, of(strings.Repeat("x", c.n))); e != api.ErrNone {
			t.Errorf("Write(%d, %d blocks): %v", c.at, c.n, e)
		}
	}
	for _, at := range []int{-1, 4, 5, 1024, 1 << 32, math.MinInt, math.MaxInt} {
		if s, e := d.Read(at); s != "" || e != api.ErrNone {
			t.Errorf("Read(%d): %.3q, %v", at, s, e)
		}
		if s, e := d.Lasts(at); s != "" || e != api.ErrNone {
			t.Errorf("Lasts(%d): %.3q, %v", at, s, e)
		}
	}
	check(t, d, "ac..", "ab..", 1)
	mustWrite(t, d, 3, "z")
	check(t, d, "ac.z", "ab..", 2)
}

// 4.3: which writes a crash does, in which order, and of which one a piece.
func TestCrash(t *testing.T) {
	const y, n = true, false
	for _, c := range []struct {
		picks []bool
		torn  int
		want  string
	}{
		// The writes: "c" at 0, "def" at 1, "gh" at 0, "ij" at 3; what lasts: "ab..."
		{nil, 0, "ab..."}, {nil, 1, "cb..."}, {nil, 2, "cb..."}, {nil, 1024, "cb..."}, {[]bool{}, 1, "cb..."},
		{[]bool{y}, 0, "cb..."}, {[]bool{y}, 1, "cd..."}, {[]bool{y}, 2, "cde.."}, {[]bool{y}, 3, "cdef."}, {[]bool{y}, 4, "cdef."}, {[]bool{y}, 1024, "cdef."},
		{[]bool{n}, 1, "cb..."}, {[]bool{n, y}, 0, "adef."}, {[]bool{n, y}, 1, "cdef."},
		{[]bool{n, n, y}, 0, "gh..."}, {[]bool{n, n, y}, 1, "gh..."}, {[]bool{y, n, y}, 0, "gh..."}, {[]bool{y, n, y}, 1, "gh..."}, {[]bool{y, n, y}, 2, "ghe.."},
		{[]bool{y, n, n, y}, 2, "cdeij"}, {[]bool{y, n, n, y}, 3, "cdeij"}, {[]bool{n, n, n, y}, 1, "cb.ij"},
		{[]bool{y, y}, 1, "gdef."}, {[]bool{y, y}, 2, "ghef."}, {[]bool{y, y, n}, 2, "ghef."}, {[]bool{y, y, n, n}, 2, "ghef."},
		{[]bool{y, y, y}, 0, "ghef."}, {[]bool{y, y, y}, 1, "ghei."}, {[]bool{y, y, y}, 2, "gheij"},
		{[]bool{y, y, y, y}, 0, "gheij"}, {[]bool{y, y, y, y, n, y}, 7, "gheij"}, {[]bool{y, y, y, n, y}, 0, "ghef."},
	} {
		d := made(t, 5)
		mustWrite(t, d, 0, "ab")
		d.Flush()
		mustWrite(t, d, 0, "c")
		mustWrite(t, d, 1, "def")
		mustWrite(t, d, 0, "gh")
		mustWrite(t, d, 3, "ij")
		kept := slices.Clone(c.picks)
		if e := d.Crash(c.picks, c.torn); e != api.OK {
			t.Errorf("Crash(%v, %d): %v", c.picks, c.torn, e)
		}
		check(t, d, c.want, c.want, 0)
		if !slices.Equal(kept, c.picks) {
			t.Errorf("Crash changed %v to %v", kept, c.picks)
		}
		d.Flush()
		if e := d.Crash([]bool{y, y, y, y}, 1024); e != api.OK {
			t.Error(e)
		}
		check(t, d, c.want, c.want, 0)
		if t.Failed() {
			t.Fatalf("behind Crash(%v, %d)", kept, c.torn)
		}
	}
}

// 4.3: the document's own example, and a write of all blocks that is torn at each of them.
func TestTorn(t *testing.T) {
	d := made(t, 2)
	mustWrite(t, d, 0, "ab")
	if e := d.Crash(nil, 1); e != api.OK {
		t.Error(e)
	}
	check(t, d, "a.", "a.", 0)
	for torn := range 9 {
		d := made(t, 8)
		mustWrite(t, d, 0, "abcdefgh")
		if e := d.Crash(nil, torn); e != api.OK {
			t.Error(e)
		}
		want := "abcdefgh"[:torn] + "........"[torn:]
		check(t, d, want, want, 0)
	}
}

// 4.3 and R4: a crash that is refused has changed nothing.
func TestCrashRefuses(t *testing.T) {
	d := made(t, 2)
	mustWrite(t, d, 0, "ab")
	for _, torn := range []int{-1, 1025, 1 << 32, math.MinInt, math.MaxInt} {
		if e := d.Crash([]bool{true}, torn); e != api.ErrArg {
			t.Errorf("Crash(.., %d): %v", torn, e)
		}
	}
	check(t, d, "ab", "..", 1)
	d.Flush()
	check(t, d, "ab", "ab", 0)
}

// R3: a device has its own copy of nothing but texts, and two devices share nothing.
func TestApart(t *testing.T) {
	a, b := made(t, 2), made(t, 2)
	mustWrite(t, a, 0, "a")
	mustWrite(t, b, 1, "b")
	a.Flush()
	mustWrite(t, a, 1, "c")
	check(t, a, "ac", "a.", 1)
	check(t, b, ".b", "..", 1)
}

// What a nil device does, and one that New did not make.
func TestNil(t *testing.T) {
	for _, d := range []*Dev{nil, {}} {
		for range 2 {
			if d.Blocks() != 0 || d.Waits() != 0 {
				t.Errorf("%d blocks, %d writes wait", d.Blocks(), d.Waits())
			}
			for _, at := range []int{-1, 0, 1, math.MaxInt, math.MinInt} {
				if e := d.Write(at, of("a")); e != api.ErrNone {
					t.Errorf("Write(%d): %v", at, e)
				}
				if e := d.Write(at, "abc"); e != api.ErrForm {
					t.Errorf("Write(%d) of no blocks: %v", at, e)
				}
				if e := d.Write(at, ""); e != api.ErrForm {
					t.Errorf("Write(%d) of nothing: %v", at, e)
				}
				if s, e := d.Read(at); s != "" || e != api.ErrNone {
					t.Errorf("Read(%d): %q, %v", at, s, e)
				}
				if s, e := d.Lasts(at); s != "" || e != api.ErrNone {
					t.Errorf("Lasts(%d): %q, %v", at, s, e)
				}
			}
			for torn, want := range map[int]api.Errno{-1: api.ErrArg, 0: api.OK, 1: api.OK, 1024: api.OK, 1025: api.ErrArg} {
				if e := d.Crash([]bool{true}, torn); e != want {
					t.Errorf("Crash(.., %d): %v", torn, e)
				}
			}
			d.Flush()
		}
	}
}

// plain is a device by the document's words alone: what lasts, and all writes that wait.
type plain struct {
	lasts []byte
	waits []write
}

func (p *plain) seen() []byte {
	out := slices.Clone(p.lasts)
	for _, w := range p.waits {
		copy(out[w.at:], w.data)
	}
	return out
}

// picks are as many bools as a number says, its bits.
func picks(n, bits uint32) []bool {
	out := []bool{}
	for i := range n {
		out = append(out, bits>>i&1 == 1)
	}
	return out
}

// crash is 4.3, a letter a block.
func (p *plain) crash(picks []bool, torn int) {
	whole := true
	for i, w := range p.waits {
		switch {
		case i < len(picks) && picks[i]:
			copy(p.lasts[w.at:], w.data)
		case whole:
			copy(p.lasts[w.at:], w.data[:min(torn, len(w.data))])
			whole = false
		}
	}
	p.waits = nil
}

// 4.1 to 4.4: long runs of all calls against the plain device.
func TestRuns(t *testing.T) {
	x := uint32(1)
	next := func(n int) int {
		x = x*1664525 + 1013904223
		return int(x>>8) % n
	}
	for run := range 60 {
		size := 1 + next(8)
		d, p := made(t, size), &plain{lasts: []byte(strings.Repeat(".", size))}
		for step := range 80 {
			before := string(p.lasts)
			switch next(6) {
			case 0:
				d.Flush()
				p.lasts, p.waits = p.seen(), nil
			case 1:
				pick, torn := picks(uint32(next(8)), uint32(next(256))), next(5)
				old := p.waits
				if e := d.Crash(pick, torn); e != api.OK {
					t.Fatal(e)
				}
				p.crash(pick, torn)
				checkKept(t, d, before, old)
			default:
				at := next(size)
				letters := ""
				for range 1 + next(size-at) {
					letters += string(rune('a' + next(26)))
				}
				mustWrite(t, d, at, letters)
				p.waits = append(p.waits, write{at, letters})
			}
			check(t, d, string(p.seen()), string(p.lasts), len(p.waits))
			if t.Failed() {
				t.Fatalf("run %d, step %d", run, step)
			}
		}
	}
}

// checkKept is 4.4: behind a crash each block is as it was, or as one of the writes that waited has it.
func checkKept(t *testing.T, d *Dev, before string, waited []write) {
	t.Helper()
	for i := range len(before) {
		may := []string{of(strings.ReplaceAll(before[i:i+1], ".", "\x00"))}
		for _, w := range waited {
			if i >= w.at && i < w.at+len(w.data) {
				may = append(may, of(w.data[i-w.at:i-w.at+1]))
			}
		}
		if got, _ := d.Lasts(i); !slices.Contains(may, got) {
			t.Errorf("block %d: %.3q", i, got)
		}
	}
}

// P1: many writes that wait, and reads of what is seen, end soon.
func TestMany(t *testing.T) {
	d := made(t, 1024)
	full := of(strings.Repeat("q", 1024))
	if e := d.Write(0, full); e != api.OK {
		t.Fatal(e)
	}
	for i := range 100000 {
		if e := d.Write(i%1024, full[:api.BlockSize]); e != api.OK {
			t.Fatal(e)
		}
		if s, e := d.Read(i % 1024); s != full[:api.BlockSize] || e != api.OK {
			t.Fatal(i, e)
		}
	}
	if d.Waits() != 100001 {
		t.Error(d.Waits())
	}
	if e := d.Crash(make([]bool, 200000), 1024); e != api.OK || d.Waits() != 0 {
		t.Error(e)
	}
	if s, e := d.Lasts(1023); s != full[:api.BlockSize] || e != api.OK {
		t.Error(e)
	}
}
