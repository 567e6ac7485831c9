package bitmap

import (
	"math"
	"slices"
	"strings"
	"testing"

	"cartulary/api"
)

const bits = 1024

// source is a row of numbers that is the same in every run.
type source struct{ x uint32 }

func (s *source) next(n int) int {
	s.x = s.x*1664525 + 1013904223
	return int(s.x>>8) % n
}

// plain is a bitmap as a list of what is taken, by the document's words.
type plain [bits]bool

func (p *plain) block() string {
	b := make([]byte, 128)
	for i, taken := range p {
		if taken {
			b[i/8] += byte(math.Pow(2, float64(i%8)))
		}
	}
	return string(b)
}

func (p *plain) count(from, below int) int {
	n := 0
	for _, taken := range p[from:below] {
		if taken {
			n++
		}
	}
	return n
}

// run tries each bit whether so many begin with it.
func (p *plain) run(from, below, many int) (int, api.Errno) {
	for i := from; i < below && many <= below-i; i++ {
		if !slices.Contains(p[i:i+many], true) {
			return i, api.OK
		}
	}
	return 0, api.ErrFull
}

// random is a bitmap of which about one in so many bits is another one than the bit ahead.
func random(s *source, one int) *plain {
	p := &plain{}
	taken := s.next(2) == 0
	for i := range p {
		if s.next(one) == 0 {
			taken = !taken
		}
		p[i] = taken
	}
	return p
}

func checkHas(t *testing.T, b string, i int, want bool, wantE api.Errno) {
	t.Helper()
	if got, e := Has(b, i); got != want || e != wantE {
		t.Errorf("Has(%x, %d): %v, %v, want %v, %v", b, i, got, e, want, wantE)
	}
}

func checkSet(t *testing.T, b string, i int, taken bool, want string, wantE api.Errno) {
	t.Helper()
	if got, e := Set(b, i, taken); got != want || e != wantE {
		t.Errorf("Set(%x, %d, %v): %x, %v, want %x, %v", b, i, taken, got, e, want, wantE)
	}
}

func checkLeast(t *testing.T, b string, from, below, want int, wantE api.Errno) {
	t.Helper()
	if got, e := Least(b, from, below); got != want || e != wantE {
		t.Errorf("Least(%x, %d, %d): %d, %v, want %d, %v", b, from, below, got, e, want, wantE)
	}
}

func checkCount(t *testing.T, b string, from, below, want int, wantE api.Errno) {
	t.Helper()
	if got, e := Count(b, from, below); got != want || e != wantE {
		t.Errorf("Count(%x, %d, %d): %d, %v, want %d, %v", b, from, below, got, e, want, wantE)
	}
}

func checkRun(t *testing.T, b string, from, below, many, want int, wantE api.Errno) {
	t.Helper()
	if got, e := Run(b, from, below, many); got != want || e != wantE {
		t.Errorf("Run(%x, %d, %d, %d): %d, %v, want %d, %v", b, from, below, many, got, e, want, wantE)
	}
}

func none() string { return strings.Repeat("\x00", 128) }
func all() string  { return strings.Repeat("\xff", 128) }

// 11.1, 11.2: the document's example.
func TestExample(t *testing.T) {
	b, e := Set(none(), 9, true)
	if b != "\x00\x02"+none()[2:] || e != api.OK {
		t.Fatalf("Set: %x, %v", b, e)
	}
	checkHas(t, b, 9, true, api.OK)
	checkLeast(t, b, 9, 20, 10, api.OK)
	checkRun(t, b, 8, 20, 2, 10, api.OK)
	checkCount(t, b, 8, 20, 1, api.OK)
}

// 11.1, 11.3: each bit by itself, set and not, in blocks without a bit, with all, and with some.
func TestSetHas(t *testing.T) {
	some := random(&source{5}, 2).block()
	for _, b := range []string{none(), all(), some} {
		for i := range bits {
			with, without := []byte(b), []byte(b)
			with[i/8] |= 1 << (i % 8)
			without[i/8] &= ^(1 << (i % 8))
			checkSet(t, b, i, true, string(with), api.OK)
			checkSet(t, b, i, false, string(without), api.OK)
			checkHas(t, string(with), i, true, api.OK)
			checkHas(t, string(without), i, false, api.OK)
			checkHas(t, b, i, b == string(with), api.OK)
		}
	}
}

// odd are numbers at which sums wrap round, and others that no bit has.
func odd() []int {
	return []int{math.MinInt, math.MinInt + 1, -1 << 32, -1025, -1024, -8, -1, 1024, 1025, 1032, 2048, 1 << 16, 1 << 32, 1<<32 + 9, math.MaxInt - 1, math.MaxInt}
}

// 11.1 and R4: bits that are none.
func TestNoBit(t *testing.T) {
	for _, b := range []string{none(), all()} {
		for _, i := range odd() {
			checkHas(t, b, i, false, api.ErrNone)
			checkSet(t, b, i, true, "", api.ErrNone)
			checkSet(t, b, i, false, "", api.ErrNone)
		}
	}
}

// ErrForm comes first, whatever else is wrong.
func TestForm(t *testing.T) {
	for _, b := range []string{"", "\x00", none()[1:], all()[1:], none() + "\x00", all() + "\xff", none() + none(), strings.Repeat("\x00", 1024)} {
		for _, i := range append(odd(), 0, 9, 1023) {
			checkHas(t, b, i, false, api.ErrForm)
			checkSet(t, b, i, true, "", api.ErrForm)
			checkSet(t, b, i, false, "", api.ErrForm)
			for _, below := range append(odd(), 0, 9, 1023) {
				checkLeast(t, b, i, below, 0, api.ErrForm)
				checkCount(t, b, i, below, 0, api.ErrForm)
				checkRun(t, b, i, below, 1, 0, api.ErrForm)
				checkRun(t, b, i, below, 0, 0, api.ErrForm)
			}
		}
	}
}

// 11.2 and R4: ranges that are none, and a many that is none; whatever is taken.
func TestNoRange(t *testing.T) {
	wrong := [][2]int{{-1, 0}, {-1, 5}, {-1, 1024}, {1, 0}, {5, 4}, {20, 9}, {1024, 1023}, {0, 1025}, {1024, 1025}, {1025, 1025}, {1025, 1024}, {-2, -1}, {-1, -1}, {math.MinInt, math.MaxInt}, {math.MaxInt, math.MinInt}}
	for _, x := range odd() {
		if x != 1024 {
			wrong = append(wrong, [2]int{0, x}, [2]int{x, x}, [2]int{x, 1024})
		}
	}
	for _, b := range []string{none(), all()} {
		for _, w := range wrong {
			checkLeast(t, b, w[0], w[1], 0, api.ErrArg)
			checkCount(t, b, w[0], w[1], 0, api.ErrArg)
			for _, many := range []int{math.MinInt, -1, 0, 1, 2, math.MaxInt} {
				checkRun(t, b, w[0], w[1], many, 0, api.ErrArg)
			}
		}
		for _, many := range []int{0, -1, -1024, math.MinInt, math.MinInt + 1} {
			checkRun(t, b, 0, 1024, many, 0, api.ErrArg)
			checkRun(t, b, 7, 7, many, 0, api.ErrArg)
		}
	}
}

// 11.2: a range without a bit has all of them taken, wherever it is; so has one of bits that all are.
func TestNothing(t *testing.T) {
	for _, b := range []string{none(), all()} {
		for i := range bits + 1 {
			checkLeast(t, b, i, i, 0, api.ErrFull)
			checkCount(t, b, i, i, 0, api.OK)
			checkRun(t, b, i, i, 1, 0, api.ErrFull)
			checkRun(t, b, i, i, math.MaxInt, 0, api.ErrFull)
			checkLeast(t, all(), 0, i, 0, api.ErrFull)
			checkRun(t, all(), i, bits, 1, 0, api.ErrFull)
		}
	}
}

// 11.2: all bits free and all taken; the least and the greatest range, and a many that just fits, and one more.
func TestWhole(t *testing.T) {
	checkLeast(t, none(), 0, 1024, 0, api.OK)
	checkLeast(t, none(), 1023, 1024, 1023, api.OK)
	checkCount(t, none(), 0, 1024, 0, api.OK)
	checkCount(t, all(), 0, 1024, 1024, api.OK)
	for i := range bits {
		checkLeast(t, none(), i, bits, i, api.OK)
		checkCount(t, all(), i, bits, bits-i, api.OK)
		checkCount(t, all(), 0, i, i, api.OK)
		checkRun(t, none(), i, bits, bits-i, i, api.OK)
		checkRun(t, none(), i, bits, bits-i+1, 0, api.ErrFull)
		checkRun(t, none(), 0, i, i+1, 0, api.ErrFull)
	}
	for _, many := range []int{1025, 1 << 32, math.MaxInt - 1, math.MaxInt} {
		checkRun(t, none(), 0, 1024, many, 0, api.ErrFull)
		checkRun(t, none(), 1000, 1024, many, 0, api.ErrFull)
	}
}

// 11.2: what is outside of the range counts for nothing, and a run that reaches over its end, or begins ahead, is none.
func TestRangeEdges(t *testing.T) {
	// Taken are all but 10, 11, 12 and 20 to 23.
	p := plain{}
	for i := range p {
		p[i] = !(10 <= i && i <= 12 || 20 <= i && i <= 23)
	}
	b := p.block()
	checkLeast(t, b, 0, 1024, 10, api.OK)
	checkLeast(t, b, 0, 10, 0, api.ErrFull)
	checkLeast(t, b, 0, 11, 10, api.OK)
	checkLeast(t, b, 12, 20, 12, api.OK)
	checkLeast(t, b, 13, 20, 0, api.ErrFull)
	checkLeast(t, b, 13, 21, 20, api.OK)
	checkRun(t, b, 0, 1024, 3, 10, api.OK)
	checkRun(t, b, 0, 1024, 4, 20, api.OK)
	checkRun(t, b, 0, 1024, 5, 0, api.ErrFull)
	checkRun(t, b, 11, 1024, 2, 11, api.OK)
	checkRun(t, b, 11, 1024, 3, 20, api.OK)
	checkRun(t, b, 0, 12, 3, 0, api.ErrFull)
	checkRun(t, b, 0, 13, 3, 10, api.OK)
	checkRun(t, b, 21, 1024, 4, 0, api.ErrFull)
	checkRun(t, b, 21, 24, 3, 21, api.OK)
	checkRun(t, b, 21, 23, 3, 0, api.ErrFull)
	checkCount(t, b, 0, 1024, 1017, api.OK)
	checkCount(t, b, 10, 13, 0, api.OK)
	checkCount(t, b, 9, 14, 2, api.OK)
	checkCount(t, b, 12, 21, 7, api.OK)
}

// 11.1 to 11.3: a long run of sets, held against a list of what is taken: what is set is had, no other bit is changed, the count goes with it.
func TestLongRun(t *testing.T) {
	s := &source{11}
	p, b := &plain{}, none()
	for range 4000 {
		i, taken := s.next(bits), s.next(3) > 0
		change := 0
		if p[i] != taken {
			change = 1
			if !taken {
				change = -1
			}
		}
		before, _ := Count(b, 0, bits)
		p[i] = taken
		checkSet(t, b, i, taken, p.block(), api.OK)
		b, _ = Set(b, i, taken)
		checkHas(t, b, i, taken, api.OK)
		checkCount(t, b, 0, bits, before+change, api.OK)
		other := s.next(bits)
		checkHas(t, b, other, p[other], api.OK)
		from := s.next(bits + 1)
		below := from + s.next(bits-from+1)
		checkCount(t, b, from, below, p.count(from, below), api.OK)
	}
}

// 11.2: bitmaps of long and short rows, in ranges of all lengths, held against trying each bit.
func TestRuns(t *testing.T) {
	s := &source{12}
	found := 0
	for range 3000 {
		p := random(s, 1+s.next(40))
		b := p.block()
		from := s.next(bits + 1)
		below := from + s.next(bits-from+1)
		many := 1 + s.next(20)
		want, e := p.run(from, below, many)
		checkRun(t, b, from, below, many, want, e)
		if e == api.OK {
			found++
		}
		want, e = p.run(from, below, 1)
		checkLeast(t, b, from, below, want, e)
		checkCount(t, b, from, below, p.count(from, below), api.OK)
	}
	if found < 1000 || found > 2900 {
		t.Errorf("%d runs were found", found)
	}
}
