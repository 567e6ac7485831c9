package inode

import (
	"math"
	"slices"
	"strings"
	"testing"

	"cartulary/api"
)

// source is a row of numbers that is the same in every run.
type source struct{ x uint32 }

func (s *source) next(n int) int {
	s.x = s.x*1664525 + 1013904223
	return int(s.x>>8) % n
}

// odd are numbers at which sums wrap round, or which look small once their high bits are cut.
func odd() []int {
	return []int{math.MinInt, math.MinInt + 1, -1 << 32, -65536, -256, -1, 1 << 16, 1<<16 + 1, 1 << 32, 1<<32 + 1, math.MaxInt - 1, math.MaxInt}
}

// file is an inode whose numbers are all unlike.
func file() api.Inode {
	return api.Inode{Kind: api.KindFile, Links: 3, Size: 0x5678, Direct: [6]int{0x101, 0x102, 0x103, 0x104, 0x105, 0x106}, Single: 0x207, Double: 0x308}
}

// right are inodes of all kinds, with each number at the least and at the greatest that it may be.
func right() []api.Inode {
	most := [6]int{1023, 1023, 1023, 1023, 1023, 1023}
	out := []api.Inode{
		{}, file(),
		{Kind: api.KindFile, Links: 1}, {Kind: api.KindFile, Links: 100}, {Kind: api.KindDir, Links: 1},
		{Kind: api.KindFile, Links: 1, Size: 1}, {Kind: api.KindFile, Links: 1, Size: 533248}, {Kind: api.KindDir, Links: 1, Size: 533248},
		{Kind: api.KindFile, Links: 1, Single: 1023}, {Kind: api.KindDir, Links: 1, Double: 1023},
		{Kind: api.KindFile, Links: 100, Size: 533248, Direct: most, Single: 1023, Double: 1023},
		{Kind: api.KindDir, Links: 1, Size: 533248, Direct: most, Single: 1023, Double: 1023},
		{Kind: api.KindDir, Links: 1, Size: 33, Direct: [6]int{7, 7}, Single: 7, Double: 7},
	}
	for i := range 6 {
		n := api.Inode{Kind: api.KindFile, Links: 2}
		n.Direct[i] = 1023
		out = append(out, n)
	}
	return out
}

// random is an inode of which most are right: each number is now and then one too great.
func random(s *source) api.Inode {
	name := func() int {
		if s.next(60) == 0 {
			return 1024
		}
		return s.next(1024) * s.next(2)
	}
	n := api.Inode{Kind: s.next(3), Links: 1 + s.next(2)*s.next(100), Size: s.next(533249 + s.next(2)), Single: name(), Double: name()}
	for i := range n.Direct {
		n.Direct[i] = name()
	}
	return n
}

// isRight is by the document's words.
func isRight(n api.Inode) bool {
	for _, b := range append(n.Direct[:], n.Single, n.Double) {
		if b < 0 || b > 1023 {
			return false
		}
	}
	switch {
	case n.Kind == 0:
		return n.Links == 0 && n.Size == 0 && n.Single == 0 && n.Double == 0 && n.Direct == [6]int{}
	case n.Kind == 2:
		return n.Links == 1 && n.Size >= 0 && n.Size <= 533248
	}
	return n.Kind == 1 && n.Links >= 1 && n.Links <= 100 && n.Size >= 0 && n.Size <= 533248
}

// bytesOf are an inode's bytes, one by one, right or not.
func bytesOf(n api.Inode) string {
	out := []byte{byte(n.Kind), byte(n.Links), byte(n.Size), byte(n.Size >> 8), byte(n.Size >> 16), byte(n.Size >> 24)}
	for _, b := range append(n.Direct[:], n.Single, n.Double) {
		out = append(out, byte(b), byte(b>>8))
	}
	return string(out) + strings.Repeat("\x00", 10)
}

// checkRight holds what all calls say of an inode that is right (12.1, 12.4).
func checkRight(t *testing.T, n api.Inode) {
	t.Helper()
	if e := Check(n); e != api.OK {
		t.Errorf("Check(%v): %v", n, e)
	}
	s, e := Encode(n)
	if s != bytesOf(n) || e != api.OK {
		t.Errorf("Encode(%v): %x, %v", n, s, e)
	}
	if got, e := Decode(bytesOf(n)); got != n || e != api.OK {
		t.Errorf("Decode(%x): %v, %v", s, got, e)
	}
}

// checkWrong holds what all calls that are given an inode say of one that is not right.
func checkWrong(t *testing.T, n api.Inode) {
	t.Helper()
	if e := Check(n); e != api.ErrInode {
		t.Errorf("Check(%v): %v", n, e)
	}
	if s, e := Encode(n); s != "" || e != api.ErrInode {
		t.Errorf("Encode(%v): %x, %v", n, s, e)
	}
	for k := range 4 {
		if b, e := Put(block(1), k, n); b != "" || e != api.ErrInode {
			t.Errorf("Put(%d, %v): %x, %v", k, n, b, e)
		}
	}
}

func checkUndecoded(t *testing.T, s string) {
	t.Helper()
	if n, e := Decode(s); n != (api.Inode{}) || e != api.ErrInode {
		t.Errorf("Decode(%x): %v, %v", s, n, e)
	}
}

// block is a block with bytes of all values.
func block(seed uint32) string {
	s := &source{seed}
	b := make([]byte, 128)
	for i := range b {
		b[i] = byte(s.next(256))
	}
	return string(b)
}

func zeros() string { return strings.Repeat("\x00", 128) }

// 12.1: an inode's bytes written out.
func TestBytes(t *testing.T) {
	const want = "\x01\x03\x78\x56\x00\x00\x01\x01\x02\x01\x03\x01\x04\x01\x05\x01\x06\x01\x07\x02\x08\x03\x00\x00\x00\x00\x00\x00\x00\x00\x00\x00"
	if s, e := Encode(file()); s != want || e != api.OK {
		t.Errorf("Encode: %x, %v", s, e)
	}
	if n, e := Decode(want); n != file() || e != api.OK {
		t.Errorf("Decode: %v, %v", n, e)
	}
	big := api.Inode{Kind: api.KindDir, Links: 1, Size: 533248}
	if s, e := Encode(big); s != "\x02\x01\x00\x23\x08"+zeros()[:27] || e != api.OK {
		t.Errorf("Encode: %x, %v", s, e)
	}
	if s, e := Encode(api.Inode{}); s != zeros()[:32] || e != api.OK {
		t.Errorf("Encode of a free one: %x, %v", s, e)
	}
}

// 12.1, 12.4: what is right, each number at its edges; no two have the same bytes.
func TestRight(t *testing.T) {
	seen := map[string]api.Inode{}
	for _, n := range right() {
		checkRight(t, n)
		s, _ := Encode(n)
		if other, ok := seen[s]; ok && other != n {
			t.Errorf("%v and %v have the same bytes", n, other)
		}
		seen[s] = n
	}
}

// spoilt are n with one number put in place of each of its own, one after another.
func spoilt(n api.Inode, x int) []api.Inode {
	out := []api.Inode{}
	for i := range 11 {
		m := n
		fields := []*int{&m.Kind, &m.Links, &m.Size, &m.Single, &m.Double, &m.Direct[0], &m.Direct[1], &m.Direct[2], &m.Direct[3], &m.Direct[4], &m.Direct[5]}
		*fields[i] = x
		out = append(out, m)
	}
	return out
}

// 12.1 and R4: each number by itself just beyond its edges.
func TestWrong(t *testing.T) {
	for _, n := range []api.Inode{
		{Kind: -1}, {Kind: 3}, {Kind: 3, Links: 1}, {Kind: -1, Links: 1}, {Kind: 256}, {Kind: 257, Links: 1},
		{Kind: 1}, {Kind: 1, Links: -1}, {Kind: 1, Links: 101}, {Kind: 1, Links: 257}, {Kind: 2}, {Kind: 2, Links: 2}, {Kind: 2, Links: 100}, {Kind: 2, Links: -1},
		{Kind: 1, Links: 1, Size: -1}, {Kind: 1, Links: 1, Size: 533249}, {Kind: 2, Links: 1, Size: 533249}, {Kind: 1, Links: 1, Size: 1 << 32},
		{Kind: 1, Links: 1, Single: 1024}, {Kind: 1, Links: 1, Single: -1}, {Kind: 2, Links: 1, Double: 1024}, {Kind: 1, Links: 1, Double: -1}, {Kind: 1, Links: 1, Double: 1 << 16},
		{Links: 1}, {Size: 1}, {Single: 1}, {Double: 1}, {Direct: [6]int{1}}, {Direct: [6]int{0, 0, 0, 0, 0, 1}}, {Links: -1}, {Size: -1}, {Single: -1}, {Double: -1}, {Direct: [6]int{-1}},
	} {
		checkWrong(t, n)
	}
	for i := range 6 {
		for _, b := range []int{-1, 1024, 1025, 65536} {
			n := api.Inode{Kind: 1 + i%2, Links: 1}
			n.Direct[i] = b
			checkWrong(t, n)
		}
	}
}

// 12.1 and P1: numbers of all sizes in each field, in inodes of each kind.
func TestSpoilt(t *testing.T) {
	for _, n := range right() {
		for _, x := range append(odd(), 0, 1, 2, 3, 99, 100, 101, 255, 256, 257, 1022, 1023, 1024, 533247, 533248, 533249) {
			for _, m := range spoilt(n, x) {
				if isRight(m) {
					checkRight(t, m)
				} else {
					checkWrong(t, m)
				}
			}
		}
	}
}

// 12.1, 12.4: many inodes, right and not, and their bytes; what is not right and fits into the bytes is not decoded.
func TestMany(t *testing.T) {
	s := &source{3}
	count := 0
	for range 20000 {
		n := random(s)
		if isRight(n) {
			count++
			checkRight(t, n)
			continue
		}
		checkWrong(t, n)
		checkUndecoded(t, bytesOf(n))
	}
	if count < 3000 || count > 17000 {
		t.Errorf("%d are right", count)
	}
}

// 12.1 and R4: bytes that are too few or too many, and each of the bytes behind an inode's numbers that is not 0.
func TestNoBytes(t *testing.T) {
	for _, n := range right() {
		s := bytesOf(n)
		for size := range 32 {
			checkUndecoded(t, s[:size])
		}
		for _, wrong := range []string{s + "\x00", s + "\x01", "\x00" + s, "\x01" + s, s + s, s[1:], s[:22], s + zeros()} {
			checkUndecoded(t, wrong)
		}
		for at := 22; at < 32; at++ {
			for _, b := range []byte{1, 128, 255} {
				wrong := []byte(s)
				wrong[at] = b
				checkUndecoded(t, string(wrong))
			}
		}
	}
	for _, s := range []string{strings.Repeat("\xff", 32), "\x01" + strings.Repeat("\xff", 31), zeros(), "\x01\x01" + strings.Repeat("\xff", 20) + zeros()[:10]} {
		checkUndecoded(t, s)
	}
}

// P1 and 12.1: whatever bytes, what is decoded of them is right and has these bytes, and no right inode's bytes are left out.
func TestDecodeTotal(t *testing.T) {
	s := &source{8}
	decoded := 0
	for range 20000 {
		b := []byte(bytesOf(right()[s.next(len(right()))]))
		for range s.next(3) {
			b[s.next(32)] = byte(s.next(256) >> s.next(8))
		}
		n, e := Decode(string(b))
		if e != api.OK {
			checkUndecoded(t, string(b))
			continue
		}
		decoded++
		if !isRight(n) || bytesOf(n) != string(b) {
			t.Fatalf("Decode(%x): %v", b, n)
		}
	}
	if decoded < 5000 || decoded > 19000 {
		t.Errorf("%d were decoded", decoded)
	}
}

// 12.1, 12.4: what was put is got, at each place; all other bytes stay, whatever they are.
func TestPut(t *testing.T) {
	for _, b := range []string{zeros(), block(1), block(2), strings.Repeat("\xff", 128)} {
		for k := range 4 {
			for _, n := range right() {
				got, e := Put(b, k, n)
				if want := b[:32*k] + bytesOf(n) + b[32*k+32:]; got != want || e != api.OK {
					t.Errorf("Put(%x, %d, %v): %x, %v", b, k, n, got, e)
				}
				if m, e := Get(got, k); m != n || e != api.OK {
					t.Errorf("Get(%x, %d): %v, %v", got, k, m, e)
				}
			}
		}
	}
}

// 12.1: a table's block of four, of which some are none.
func TestGet(t *testing.T) {
	wrong := "\x03" + zeros()[1:32]
	b := bytesOf(file()) + wrong + bytesOf(api.Inode{}) + bytesOf(api.Inode{Kind: api.KindDir, Links: 1, Size: 64})
	want := []struct {
		n api.Inode
		e api.Errno
	}{{file(), api.OK}, {api.Inode{}, api.ErrInode}, {api.Inode{}, api.OK}, {api.Inode{Kind: api.KindDir, Links: 1, Size: 64}, api.OK}}
	for k, w := range want {
		if n, e := Get(b, k); n != w.n || e != w.e {
			t.Errorf("Get(%d): %v, %v, want %v, %v", k, n, e, w.n, w.e)
		}
	}
	for seed := range uint32(2000) {
		b := block(seed)
		for k := range 4 {
			n, e := Get(b, k)
			if m, f := Decode(b[32*k : 32*k+32]); n != m || e != f {
				t.Errorf("Get(%x, %d): %v, %v, want %v, %v", b, k, n, e, m, f)
			}
		}
	}
}

// noBlocks are of another length than 128.
func noBlocks() []string {
	return []string{"", "\x00", zeros()[1:], zeros() + "\x00", block(3)[1:], block(3) + "x", zeros() + zeros(), zeros()[:32]}
}

// 12.1, R1 and R4: ErrForm, then ErrNone, then ErrInode.
func TestTableErrors(t *testing.T) {
	wrong := api.Inode{Kind: 3}
	for _, b := range noBlocks() {
		for _, k := range append(odd(), 0, 3, 4) {
			if n, e := Get(b, k); n != (api.Inode{}) || e != api.ErrForm {
				t.Errorf("Get(%x, %d): %v, %v", b, k, n, e)
			}
			for _, n := range []api.Inode{file(), wrong} {
				if got, e := Put(b, k, n); got != "" || e != api.ErrForm {
					t.Errorf("Put(%x, %d, %v): %x, %v", b, k, n, got, e)
				}
			}
		}
	}
	for _, b := range []string{zeros(), strings.Repeat("\xff", 128)} {
		for _, k := range append(odd(), 4, 5, 31, 32, 63) {
			if n, e := Get(b, k); n != (api.Inode{}) || e != api.ErrNone {
				t.Errorf("Get(%d): %v, %v", k, n, e)
			}
			for _, n := range []api.Inode{file(), wrong} {
				if got, e := Put(b, k, n); got != "" || e != api.ErrNone {
					t.Errorf("Put(%d, %v): %x, %v", k, n, got, e)
				}
			}
		}
	}
}

// places are all indices' places in their order, by the document's words.
func places() [][3]int {
	out := [][3]int{}
	for i := range 6 {
		out = append(out, [3]int{0, i, 0})
	}
	for i := range 64 {
		out = append(out, [3]int{1, i, 0})
	}
	for i := range 64 {
		for j := range 64 {
			out = append(out, [3]int{2, i, j})
		}
	}
	return out
}

// 12.2, 12.4: each index's place; no two have the same.
func TestPlace(t *testing.T) {
	all := places()
	if len(all) != MaxIndex || MaxIndex*api.BlockSize != api.MaxSize {
		t.Fatalf("%d places", len(all))
	}
	seen := map[[3]int]int{}
	for index, want := range all {
		level, first, second, e := Place(index)
		got := [3]int{level, first, second}
		if got != want || e != api.OK {
			t.Errorf("Place(%d): %v, %v, want %v", index, got, e, want)
		}
		if other, ok := seen[got]; ok {
			t.Errorf("%d and %d have one place", index, other)
		}
		seen[got] = index
	}
	for index, want := range map[int][3]int{0: {0, 0, 0}, 5: {0, 5, 0}, 6: {1, 0, 0}, 69: {1, 63, 0}, 70: {2, 0, 0}, 133: {2, 0, 63}, 134: {2, 1, 0}, 4165: {2, 63, 63}} {
		if all[index] != want {
			t.Errorf("place of %d: %v", index, all[index])
		}
	}
}

// 12.2 and R4: what is no index.
func TestNoIndex(t *testing.T) {
	for _, index := range append(odd(), 4166, 4167, 8332, 533248) {
		if level, first, second, e := Place(index); level != 0 || first != 0 || second != 0 || e != api.ErrArg {
			t.Errorf("Place(%d): %d, %d, %d, %v", index, level, first, second, e)
		}
	}
}

// 12.2, 12.4: each number of a block of names, whatever it is; one that was put is told, all others stay.
func TestNames(t *testing.T) {
	for _, b := range []string{zeros(), strings.Repeat("\xff", 128), block(5), block(6)} {
		for k := range 64 {
			want := int(b[2*k]) + 256*int(b[2*k+1])
			if n, e := Name(b, k); n != want || e != api.OK {
				t.Errorf("Name(%x, %d): %d, %v", b, k, n, e)
			}
			for _, to := range []int{0, 1, 255, 256, 258, 1022, 1023} {
				got, e := Rename(b, k, to)
				if want := b[:2*k] + string([]byte{byte(to), byte(to >> 8)}) + b[2*k+2:]; got != want || e != api.OK {
					t.Errorf("Rename(%x, %d, %d): %x, %v", b, k, to, got, e)
				}
				if n, e := Name(got, k); n != to || e != api.OK {
					t.Errorf("Name(%x, %d): %d, %v", got, k, n, e)
				}
			}
		}
	}
	if n, e := Name(strings.Repeat("\xff", 128), 63); n != 65535 || e != api.OK {
		t.Errorf("Name: %d, %v", n, e)
	}
}

// 12.2, R1 and R4: ErrForm, then ErrNone, then Rename's ErrArg.
func TestNameErrors(t *testing.T) {
	check := func(b string, k, to int, want api.Errno) {
		t.Helper()
		if got, e := Rename(b, k, to); got != "" || e != want {
			t.Errorf("Rename(%x, %d, %d): %x, %v, want %v", b, k, to, got, e, want)
		}
	}
	for _, b := range noBlocks() {
		for _, k := range append(odd(), 0, 63, 64) {
			if n, e := Name(b, k); n != 0 || e != api.ErrForm {
				t.Errorf("Name(%x, %d): %d, %v", b, k, n, e)
			}
			for _, to := range []int{-1, 0, 1023, 1024} {
				check(b, k, to, api.ErrForm)
			}
		}
	}
	for _, k := range append(odd(), 64, 65, 127, 128) {
		if n, e := Name(block(7), k); n != 0 || e != api.ErrNone {
			t.Errorf("Name(%d): %d, %v", k, n, e)
		}
		for _, to := range []int{-1, 0, 1023, 1024} {
			check(block(7), k, to, api.ErrNone)
		}
	}
	for _, to := range append(odd(), -1024, 1024, 1025, 65535) {
		for k := range 64 {
			check(block(7), k, to, api.ErrArg)
		}
	}
}

// costOf counts the blocks by the document's words.
func costOf(present []int) int {
	cost, all := len(present), places()
	single, double, named := false, false, [64]bool{}
	for _, index := range present {
		p := all[index]
		single = single || p[0] == 1
		if p[0] == 2 {
			double = true
			named[p[1]] = true
		}
	}
	for _, is := range append(named[:], single, double) {
		if is {
			cost++
		}
	}
	return cost
}

func checkCost(t *testing.T, present []int, want int) {
	t.Helper()
	kept := slices.Clone(present)
	if got, e := Cost(present); got != want || e != api.OK {
		t.Errorf("Cost(%v): %d, %v, want %d", present, got, e, want)
	}
	if !slices.Equal(present, kept) {
		t.Errorf("Cost changed %v to %v", kept, present)
	}
}

// upTo are the indices from 0 on, so many.
func upTo(many int) []int {
	out := []int{}
	for i := range many {
		out = append(out, i)
	}
	return out
}

// 12.3: nothing, each edge of the levels by itself, and whole files.
func TestCost(t *testing.T) {
	checkCost(t, nil, 0)
	checkCost(t, []int{}, 0)
	checkCost(t, []int{0, 6, 70, 134}, 8)
	for index, want := range map[int]int{0: 1, 5: 1, 6: 2, 69: 2, 70: 3, 133: 3, 134: 3, 4165: 3} {
		checkCost(t, []int{index}, want)
	}
	checkCost(t, []int{5, 6}, 3)
	checkCost(t, []int{6, 69}, 3)
	checkCost(t, []int{69, 70}, 5)
	checkCost(t, []int{70, 133}, 4)
	checkCost(t, []int{133, 134}, 5)
	checkCost(t, []int{70, 4165}, 5)
	for many, want := range map[int]int{6: 6, 7: 8, 70: 71, 71: 74, 134: 137, 135: 139, 4166: 4166 + 1 + 1 + 64} {
		checkCost(t, upTo(many), want)
	}
}

// 12.3 and R4: lists that are not rising, or have what is no index, at each place.
func TestNoCost(t *testing.T) {
	wrong := [][]int{{1, 1}, {1, 0}, {0, 0}, {6, 5}, {0, 6, 6}, {0, 1, 2, 1}, {70, 6, 0}, {4165, 0}, {4165, 4166}, {-1, 0}, append(upTo(4166), 4166), append(upTo(4166), 0), append(upTo(4166), 4165)}
	for _, x := range append(odd(), 4166, 5000) {
		wrong = append(wrong, []int{x}, []int{x, 5}, []int{5, x}, []int{0, x, 4165}, []int{x, x})
	}
	for _, present := range wrong {
		if n, e := Cost(present); n != 0 || e != api.ErrArg {
			t.Errorf("Cost(%v): %d, %v", present, n, e)
		}
	}
}

// 12.3, 12.4: files that grow by one block after another, anywhere: never a block less.
func TestCostGrows(t *testing.T) {
	s := &source{9}
	for range 60 {
		span := []int{10, 80, 300, 4166}[s.next(4)]
		present, last := []int{}, 0
		for range 40 {
			index := s.next(span)
			at, found := slices.BinarySearch(present, index)
			if found {
				continue
			}
			present = slices.Insert(present, at, index)
			cost, _ := Cost(present)
			checkCost(t, present, costOf(present))
			if cost <= last {
				t.Errorf("Cost(%v): %d, behind %d", present, cost, last)
			}
			last = cost
		}
	}
}
