package sum

import (
	"hash/crc32"
	"strings"
	"testing"

	"cartulary/api"
)

// texts are of all lengths up to a block's and beyond, with bytes of all values.
func texts() []string {
	out := []string{}
	for n := range 300 {
		b := make([]byte, n)
		for i := range b {
			b[i] = byte(i*167 + n*41 + i*i)
		}
		out = append(out, string(b), strings.Repeat("\x00", n), strings.Repeat("\xff", n))
	}
	return out
}

// library is the sum as the library has it, its lowest byte first.
func library(s string) string {
	n := crc32.Checksum([]byte(s), crc32.MakeTable(crc32.Castagnoli))
	return string([]byte{byte(n), byte(n >> 8), byte(n >> 16), byte(n >> 24)})
}

// turned is s with some bits turned, from the bit at on: those whose bits in mask are 1.
func turned(s string, at int, mask uint64) string {
	b := []byte(s)
	for i := range 64 {
		if mask>>i&1 == 1 {
			b[(at+i)/8] ^= 1 << ((at + i) % 8)
		}
	}
	return string(b)
}

// 3.1
func TestOf(t *testing.T) {
	for s, want := range map[string]int{
		"": 0, "123456789": 0xE3069283, "a": 0xC1D04330,
		strings.Repeat("\x00", 32): 0x8A9136AA, strings.Repeat("\xff", 32): 0x62A8AB43,
	} {
		if got := Of(s); got != want {
			t.Errorf("Of(%q): %x, want %x", s, got, want)
		}
	}
	for _, s := range texts() {
		if got, want := Of(s), int(crc32.Checksum([]byte(s), crc32.MakeTable(crc32.Castagnoli))); got != want {
			t.Errorf("Of(%q): %x, want %x", s, got, want)
		}
	}
	for b := range 256 {
		s := string([]byte{byte(b)})
		if got, want := Of(s), int(crc32.Checksum([]byte(s), crc32.MakeTable(crc32.Castagnoli))); got != want || got < 0 || got > 1<<32-1 {
			t.Errorf("Of(%q): %x, want %x", s, got, want)
		}
	}
}

// 3.1, 3.3
func TestSeal(t *testing.T) {
	if got := Seal("123456789"); got != "123456789\x83\x92\x06\xE3" {
		t.Errorf("Seal: %x", got)
	}
	if got := Seal(""); got != "\x00\x00\x00\x00" {
		t.Errorf("Seal of nothing: %x", got)
	}
	for _, s := range append(texts(), strings.Repeat("long", 50000)) {
		sealed := Seal(s)
		if sealed != s+library(s) {
			t.Errorf("Seal(%q): %x", s, sealed)
		}
		if got, e := Open(sealed); got != s || e != api.OK {
			t.Errorf("Open of Seal(%q): %q, %v", s, got, e)
		}
		if got, e := Open(Seal(sealed)); got != sealed || e != api.OK {
			t.Errorf("Open of what was sealed twice, %q: %q, %v", s, got, e)
		}
	}
}

// 3.1 and R4: what is too short, or carries another sum.
func TestOpenRefuses(t *testing.T) {
	for _, s := range []string{"", "a", "ab", "abc", "\x00", "\x00\x00\x00"} {
		if got, e := Open(s); got != "" || e != api.ErrCut {
			t.Errorf("Open(%q): %q, %v", s, got, e)
		}
	}
	for _, s := range []string{
		"abcd", "\x00\x00\x00\x01", "\x01\x00\x00\x00", "\xff\xff\xff\xff", "a\x00\x00\x00\x00", Seal("ab") + "\x00", "\x00" + Seal("ab"),
		"ab" + string([]byte{Seal("ab")[5], Seal("ab")[4], Seal("ab")[3], Seal("ab")[2]}), Seal("ab")[1:], Seal("abcdef")[:9],
	} {
		if got, e := Open(s); got != "" || e != api.ErrSum {
			t.Errorf("Open(%q): %q, %v", s, got, e)
		}
	}
}

// 3.2: a block's bytes, one by one.
func TestBlock(t *testing.T) {
	for _, s := range texts() {
		b, e := Block(s)
		if len(s) > 122 {
			if b != "" || e != api.ErrLong {
				t.Errorf("Block of %d bytes: %q, %v", len(s), b, e)
			}
			continue
		}
		body := string([]byte{byte(len(s)), 0}) + s + strings.Repeat("\x00", 122-len(s))
		if b != body+library(body) || len(b) != api.BlockSize || e != api.OK {
			t.Errorf("Block(%q): %x, %v", s, b, e)
		}
		if got, e := Unblock(b); got != s || e != api.OK {
			t.Errorf("Unblock of Block(%q): %q, %v", s, got, e)
		}
	}
	if b, e := Block(strings.Repeat("x", 1<<20)); b != "" || e != api.ErrLong {
		t.Errorf("Block of a long text: %d bytes, %v", len(b), e)
	}
}

// 3.2 and R4: what is no block, a block with another sum, and one that is of no text.
func TestUnblockRefuses(t *testing.T) {
	whole, _ := Block("xy")
	for _, n := range []int{0, 1, 3, 4, 6, 122, 127, 129, 132, 256} {
		for _, b := range []string{strings.Repeat("\x00", n), strings.Repeat("\xff", n), Seal(strings.Repeat("\x00", max(n-4, 0)))} {
			if len(b) == api.BlockSize {
				continue
			}
			if got, e := Unblock(b); got != "" || e != api.ErrForm {
				t.Errorf("Unblock of %d bytes: %q, %v", len(b), got, e)
			}
		}
	}
	for _, b := range []string{whole[1:], whole + "\x00", "\x00" + whole, whole + whole} {
		if got, e := Unblock(b); got != "" || e != api.ErrForm {
			t.Errorf("Unblock of %d bytes: %q, %v", len(b), got, e)
		}
	}
	for _, b := range []string{strings.Repeat("\x00", 128), strings.Repeat("\xff", 128), whole[:127] + "\x00", "\x7b" + whole[1:], whole[:50] + "z" + whole[51:]} {
		if got, e := Unblock(b); got != "" || e != api.ErrSum {
			t.Errorf("Unblock(%x): %q, %v", b, got, e)
		}
	}
	rest := strings.Repeat("\x00", 122)
	for _, body := range []string{
		"\x7b\x00" + rest, "\x7c\x00" + rest, "\x7e\x00" + rest, "\xff\x00" + rest, "\x00\x01" + rest, "\x02\x01" + rest, "\xff\xff" + rest, "\x00\x80" + rest,
		"\x00\x00" + rest[1:] + "a", "\x00\x00a" + rest[1:], "\x01\x00ab" + rest[2:], "\x79\x00" + rest[1:] + "a", "\x02\x00ab" + rest[3:] + "\x01",
	} {
		if got, e := Unblock(Seal(body)); got != "" || e != api.ErrForm {
			t.Errorf("Unblock of what is sealed, %x: %q, %v", body, got, e)
		}
	}
}

// 3.2 and P1: whatever a sealed block has, it ends, and what is told is what its block would be of.
func TestUnblockTotal(t *testing.T) {
	for length := range 1 << 16 {
		body := []byte(strings.Repeat("\x00", 124))
		body[0], body[1] = byte(length), byte(length>>8)
		at := 2 + length%122
		body[at] = byte(length)
		b := Seal(string(body))
		got, e := Unblock(b)
		if again, _ := Block(got); e == api.OK && again != b || e != api.OK && (got != "" || e != api.ErrForm) {
			t.Fatalf("Unblock(%x): %q, %v", b, got, e)
		}
		if right := length <= 122 && (body[at] == 0 || at < 2+length); right != (e == api.OK) {
			t.Fatalf("Unblock(%x): %v", b, e)
		}
	}
}

// masks are runs of n bits that begin and end with a turned one.
func masks(n int) []uint64 {
	if n == 1 {
		return []uint64{1}
	}
	ends := uint64(1) | 1<<(n-1)
	all := uint64(1)<<n - 1
	out := []uint64{ends, all, ends | 0x5555555555555555&all, ends | 0xAAAAAAAAAAAAAAAA&all}
	x := uint64(n) * 0x9E3779B97F4A7C15
	for range 3 {
		x ^= x << 13
		x ^= x >> 7
		x ^= x << 17
		out = append(out, ends|x&all)
	}
	return out
}

// 3.4: one bit, or up to 32 in a row, wherever they stand: in the text, in its sum, or in both.
func TestTurned(t *testing.T) {
	whole, _ := Block("some text that a block has")
	for _, sealed := range []string{Seal(""), Seal("a"), Seal("123456789"), Seal(strings.Repeat("\x00", 40)), whole} {
		for n := 1; n <= 32; n++ {
			for at := 0; at+n <= 8*len(sealed); at++ {
				for _, mask := range masks(n) {
					checkTurned(t, turned(sealed, at, mask))
				}
			}
		}
	}
}

func checkTurned(t *testing.T, s string) {
	t.Helper()
	if got, e := Open(s); got != "" || e != api.ErrSum {
		t.Fatalf("Open(%x): %q, %v", s, got, e)
	}
	if len(s) != api.BlockSize {
		return
	}
	if got, e := Unblock(s); got != "" || e != api.ErrSum {
		t.Fatalf("Unblock(%x): %q, %v", s, got, e)
	}
}
