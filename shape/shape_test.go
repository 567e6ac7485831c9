package shape

import (
	"math"
	"strings"
	"testing"

	"cartulary/api"
	"cartulary/sum"
)

// first is the first data block's number, by the document's words: a superblock, the journal, a bitmap, four inodes a block.
func first(s api.Shape) int {
	blocks := 1 + s.Journal + 1
	for inodes := s.Inodes; inodes > 0; inodes -= 4 {
		blocks++
	}
	return blocks
}

func isShape(s api.Shape) bool {
	return 16 <= s.Blocks && s.Blocks <= 1024 && 8 <= s.Journal && s.Journal <= 256 && 1 <= s.Inodes && s.Inodes <= 64 && first(s)+4 <= s.Blocks
}

// some are shapes of all kinds, and what is none, near all edges.
func some() []api.Shape {
	out := []api.Shape{}
	for _, journal := range []int{-1, 0, 1, 7, 8, 9, 10, 16, 20, 100, 255, 256, 257, 300} {
		for inodes := -2; inodes <= 70; inodes++ {
			for _, blocks := range []int{-1, 0, 1, 15, 16, 17, 18, 32, 64, 127, 128, 255, 256, 257, 1000, 1023, 1024, 1025, 2000} {
				out = append(out, api.Shape{Blocks: blocks, Journal: journal, Inodes: inodes})
			}
			for more := range 9 {
				s := api.Shape{Journal: journal, Inodes: inodes}
				s.Blocks = first(s) + more
				out = append(out, s)
			}
		}
	}
	return out
}

// checkNone holds what all calls say of a shape that is none.
func checkNone(t *testing.T, s api.Shape) {
	t.Helper()
	if e := Check(s); e != api.ErrShape {
		t.Errorf("Check(%v): %v", s, e)
	}
	if r, e := Of(s); r != (Regions{}) || e != api.ErrShape {
		t.Errorf("Of(%v): %v, %v", s, r, e)
	}
	if b, e := Super(s); b != "" || e != api.ErrShape {
		t.Errorf("Super(%v): %q, %v", s, b, e)
	}
}

// checkOne holds what Check and Of say of a shape; 6.3: each block, up to the last one, is of one region, in their order.
func checkOne(t *testing.T, s api.Shape) {
	t.Helper()
	if e := Check(s); e != api.OK {
		t.Errorf("Check(%v): %v", s, e)
	}
	r, e := Of(s)
	data := first(s)
	if want := (Regions{1, 1 + s.Journal, 2 + s.Journal, data, s.Blocks - data}); r != want || e != api.OK {
		t.Errorf("Of(%v): %v, %v, want %v", s, r, e, want)
	}
	table := r.Data - r.Table
	switch {
	case r.Journal != 1 || r.Bitmap-r.Journal != s.Journal || r.Table-r.Bitmap != 1 || r.Data+r.Count != s.Blocks:
		t.Errorf("Of(%v): %v has a gap", s, r)
	case 4*table < s.Inodes || 4*(table-1) >= s.Inodes || r.Count < 4:
		t.Errorf("Of(%v): %v has a table of %d blocks", s, r, table)
	}
}

// 6.1, 6.3: all shapes and all that are near, each number by itself at its edges, and the least data blocks.
func TestCheck(t *testing.T) {
	ones := 0
	for _, s := range some() {
		if isShape(s) {
			ones++
			checkOne(t, s)
		} else {
			checkNone(t, s)
		}
	}
	if ones < 5000 {
		t.Errorf("only %d shapes", ones)
	}
}

// 6.1: the document's example, and shapes written out one by one.
func TestOf(t *testing.T) {
	for s, want := range map[api.Shape]Regions{
		{Blocks: 64, Journal: 16, Inodes: 10}:    {1, 17, 18, 21, 43},
		{Blocks: 16, Journal: 8, Inodes: 1}:      {1, 9, 10, 11, 5},
		{Blocks: 16, Journal: 8, Inodes: 4}:      {1, 9, 10, 11, 5},
		{Blocks: 16, Journal: 8, Inodes: 5}:      {1, 9, 10, 12, 4},
		{Blocks: 16, Journal: 8, Inodes: 8}:      {1, 9, 10, 12, 4},
		{Blocks: 16, Journal: 9, Inodes: 4}:      {1, 10, 11, 12, 4},
		{Blocks: 1024, Journal: 256, Inodes: 64}: {1, 257, 258, 274, 750},
		{Blocks: 278, Journal: 256, Inodes: 64}:  {1, 257, 258, 274, 4},
		{Blocks: 1024, Journal: 8, Inodes: 1}:    {1, 9, 10, 11, 1013},
	} {
		if r, e := Of(s); r != want || e != api.OK {
			t.Errorf("Of(%v): %v, %v, want %v", s, r, e, want)
		}
	}
}

// 6.1, 6.2 and P1: what is no shape, with one number that is wrong and with numbers at which sums wrap round.
func TestNoShape(t *testing.T) {
	for _, n := range [][3]int{
		{}, {15, 8, 1}, {1025, 8, 1}, {64, 7, 1}, {1024, 257, 1}, {64, 8, 0}, {64, 8, 65}, {1024, 256, 65},
		{16, 8, 9}, {16, 8, 12}, {16, 9, 5}, {16, 10, 1}, {277, 256, 64}, {16, 256, 64}, {-64, 16, 10}, {64, -16, 10}, {64, 16, -10},
	} {
		checkNone(t, api.Shape{Blocks: n[0], Journal: n[1], Inodes: n[2]})
	}
	odd := []int{math.MinInt, math.MinInt + 1, math.MinInt + 4, -1 << 32, -1, 0, 1 << 16, 1<<16 + 64, 1 << 32, 1<<32 + 64, math.MaxInt - 4, math.MaxInt - 1, math.MaxInt}
	for _, x := range odd {
		checkNone(t, api.Shape{Blocks: x, Journal: 16, Inodes: 10})
		checkNone(t, api.Shape{Blocks: 64, Journal: x, Inodes: 10})
		checkNone(t, api.Shape{Blocks: 64, Journal: 16, Inodes: x})
		for _, y := range odd {
			for _, z := range odd {
				checkNone(t, api.Shape{Blocks: x, Journal: y, Inodes: z})
			}
		}
	}
}

// textOf is a superblock's text, byte by byte.
func textOf(blocks, journal, inodes int) string {
	return "cart" + string([]byte{byte(blocks), byte(blocks >> 8), byte(journal), byte(journal >> 8), byte(inodes), byte(inodes >> 8)})
}

func blockOf(t *testing.T, text string) string {
	t.Helper()
	b, e := sum.Block(text)
	if e != api.OK {
		t.Fatalf("Block(%q): %v", text, e)
	}
	return b
}

// 6.2, 6.3: a superblock's bytes, and the shape that is read of them.
func TestSuper(t *testing.T) {
	b, e := Super(api.Shape{Blocks: 1024, Journal: 256, Inodes: 64})
	if e != api.OK || len(b) != api.BlockSize || b[:14] != "\x0a\x00cart\x00\x04\x00\x01\x40\x00\x00\x00" {
		t.Errorf("Super: %x, %v", b, e)
	}
	read := map[string]api.Shape{}
	for _, s := range some() {
		if !isShape(s) {
			continue
		}
		b, e := Super(s)
		if b != blockOf(t, textOf(s.Blocks, s.Journal, s.Inodes)) || e != api.OK {
			t.Errorf("Super(%v): %x, %v", s, b, e)
		}
		if got, e := Read(b); got != s || e != api.OK {
			t.Errorf("Read of Super(%v): %v, %v", s, got, e)
		}
		if other, ok := read[b]; ok && other != s {
			t.Errorf("%v and %v have one superblock", s, other)
		}
		read[b] = s
	}
}

// checkUnread holds that b is the superblock of no shape.
func checkUnread(t *testing.T, b string) {
	t.Helper()
	if s, e := Read(b); s != (api.Shape{}) || e != api.ErrShape {
		t.Errorf("Read(%x): %v, %v", b, s, e)
	}
}

// 6.2 and R4: what is no block, or a block of another sum.
func TestReadNoBlock(t *testing.T) {
	b := blockOf(t, textOf(64, 16, 10))
	text := textOf(64, 16, 10)
	for _, wrong := range []string{
		"", "cart", text, sum.Seal(text), b[1:], b[:127], b + "\x00", "\x00" + b, b + b, b[:12],
		strings.Repeat("\x00", 128), strings.Repeat("\xff", 128), strings.Repeat("\x00", 127), b[:124] + "\x00\x00\x00\x00",
	} {
		checkUnread(t, wrong)
	}
	for i := range 8 * len(b) {
		turned := []byte(b)
		turned[i/8] ^= 1 << (i % 8)
		checkUnread(t, string(turned))
	}
	// A right sum over what is the block of no text.
	body := b[:len(b)-4]
	for _, wrong := range []string{body[:123] + "\x01", "\x09" + body[1:], "\x7b" + body[1:], "\x0a\x01" + body[2:]} {
		checkUnread(t, sum.Seal(wrong))
	}
}

// 6.2 and R4: blocks of texts that are none of a shape.
func TestReadNoText(t *testing.T) {
	text := textOf(64, 16, 10)
	for _, wrong := range []string{
		"", "c", "cart", "card" + text[4:], "Cart" + text[4:], "\x00art" + text[4:], text[1:], text[4:], " " + text, "\x04" + text,
		text[:5], text[:6], text[:8], text[:9], text + "\x00", text + "\x00\x00", text + text, text + strings.Repeat("\x00", 112), "cart" + text,
	} {
		checkUnread(t, blockOf(t, wrong))
	}
}

// 6.2: blocks of texts whose numbers are no shape; all others are read.
func TestReadNumbers(t *testing.T) {
	for _, s := range append(some(), api.Shape{Blocks: 65535, Journal: 65535, Inodes: 65535}, api.Shape{Blocks: 0x4000, Journal: 0x1000, Inodes: 0x0a00}) {
		if min(s.Blocks, s.Journal, s.Inodes) < 0 {
			continue
		}
		b := blockOf(t, textOf(s.Blocks, s.Journal, s.Inodes))
		if !isShape(s) {
			checkUnread(t, b)
		} else if got, e := Read(b); got != s || e != api.OK {
			t.Errorf("Read of the block of %v: %v, %v", s, got, e)
		}
	}
}

// P1 and 6.2: whatever a block has, what is read of it is a shape whose superblock it is.
func TestReadTotal(t *testing.T) {
	x := uint32(3)
	next := func(n int) int {
		x = x*1664525 + 1013904223
		return int(x>>8) % n
	}
	whole := blockOf(t, textOf(64, 16, 10))
	read := 0
	for range 20000 {
		body := []byte(whole[:124])
		for range 1 + next(3) {
			at := 2 + next(14)
			if next(8) == 0 {
				at = next(124)
			}
			body[at] = byte(next(70))
		}
		b := sum.Seal(string(body))
		s, e := Read(b)
		if e != api.OK {
			checkUnread(t, b)
			continue
		}
		read++
		if again, e := Super(s); again != b || e != api.OK {
			t.Fatalf("Read(%x): %v", b, s)
		}
	}
	if read == 0 {
		t.Error("nothing was read")
	}
}
