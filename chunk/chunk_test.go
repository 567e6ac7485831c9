package chunk

import (
	"hash/crc32"
	"math"
	"slices"
	"strings"
	"testing"

	"cartulary/api"
)

// source is a source of numbers, always the same ones.
type source uint32

func (x *source) next(n int) int {
	*x = *x*1664525 + 1013904223
	return int(*x>>8) % n
}

// snapshot are n blocks, no two of which are the same.
func snapshot(n int) []string {
	r := source(n)
	l := make([]string, n)
	for i := range l {
		b := make([]byte, api.BlockSize)
		for k := range b {
			b[k] = byte(r.next(256))
		}
		b[0], b[1] = byte(i), byte(i>>8)
		l[i] = string(b)
	}
	return l
}

// plainSum is the sum, by the library's own means.
func plainSum(s string) int {
	return int(crc32.Checksum([]byte(s), crc32.MakeTable(crc32.Castagnoli)))
}

// split are the chunks of a snapshot that is one.
func split(t *testing.T, blocks []string) []Chunk {
	t.Helper()
	l, e := Split(blocks)
	if e != api.OK {
		t.Fatalf("Split of %d blocks: %v", len(blocks), e)
	}
	return l
}

// with is a chunk of which one thing is another one.
func with(c Chunk, change func(c *Chunk)) Chunk {
	change(&c)
	return c
}

// sizes are how many blocks a snapshot may have: the edges, and where a chunk more begins.
func sizes() []int {
	return []int{1, 2, 7, 8, 9, 10, 15, 16, 17, 23, 24, 25, 100, 511, 512, 513, 1015, 1016, 1017, 1023, 1024}
}

func TestExample(t *testing.T) {
	c := split(t, snapshot(10))
	if len(c) != 2 || len(c[0].Data) != 8*api.BlockSize || len(c[1].Data) != 2*api.BlockSize {
		t.Fatalf("%d chunks", len(c))
	}
	x := New()
	if ok, e := x.Add(c[1]); !ok || e != api.OK {
		t.Errorf("Add: %v, %v", ok, e)
	}
	if m := x.Missing(); !slices.Equal(m, []int{0}) {
		t.Errorf("Missing: %v", m)
	}
}

func TestConstant(t *testing.T) {
	if PerChunk != 8 {
		t.Errorf("PerChunk: %d", PerChunk)
	}
}

// 25.1

func TestSplit(t *testing.T) {
	for _, n := range sizes() {
		blocks := snapshot(n)
		l := split(t, blocks)
		if len(l) != (n+7)/8 {
			t.Fatalf("%d blocks: %d chunks", n, len(l))
		}
		all := strings.Join(blocks, "")
		for i, c := range l {
			data := all[i*8*api.BlockSize : min((i+1)*8, n)*api.BlockSize]
			want := Chunk{Digest: plainSum(all), Total: n, Number: i, Data: data, Sum: plainSum(data)}
			if c != want {
				t.Fatalf("%d blocks, chunk %d: %d %d %d %d, %d bytes", n, i, c.Digest, c.Total, c.Number, c.Sum, len(c.Data))
			}
		}
	}
}

func notSplit(t *testing.T, blocks []string, want api.Errno) {
	t.Helper()
	if l, e := Split(blocks); len(l) != 0 || e != want {
		t.Errorf("Split of %d blocks: %d chunks, %v; want %v", len(blocks), len(l), e, want)
	}
}

func TestSplitWrong(t *testing.T) {
	notSplit(t, nil, api.ErrArg)
	notSplit(t, []string{}, api.ErrArg)
	notSplit(t, snapshot(1025), api.ErrArg)
	notSplit(t, snapshot(2048), api.ErrArg)
	for _, n := range []int{1, 8, 9, 1024} {
		for _, at := range []int{0, n / 2, n - 1} {
			for _, size := range []int{0, 1, 127, 129, 256} {
				blocks := snapshot(n)
				blocks[at] = strings.Repeat("x", size)
				notSplit(t, blocks, api.ErrForm)
			}
		}
	}
	// One block too short and one too long are as many bytes as two.
	notSplit(t, []string{strings.Repeat("x", 127), strings.Repeat("x", 129)}, api.ErrForm)
	// How many there are comes ahead of how long they are.
	notSplit(t, make([]string, 1025), api.ErrArg)
	notSplit(t, make([]string, 1024), api.ErrForm)
}

// What is handed in stays, and what is answered is new, spare room too.
func TestSplitMemory(t *testing.T) {
	room := append(snapshot(20), "behind", "it")
	kept := slices.Clone(room)
	first := split(t, room[:20])
	second := split(t, room[:20])
	clear(first[:cap(first)])
	if !slices.Equal(room, kept) {
		t.Error("the blocks were changed")
	}
	clear(room)
	if third := split(t, kept[:20]); !slices.Equal(second, third) {
		t.Error("chunks share memory")
	}
}

// rightChunks are right: all of some snapshots.
func rightChunks(t *testing.T) []Chunk {
	var l []Chunk
	for _, n := range sizes() {
		l = append(l, split(t, snapshot(n))...)
	}
	return l
}

func TestCheck(t *testing.T) {
	for _, c := range rightChunks(t) {
		if e := Check(c); e != api.OK {
			t.Fatalf("chunk %d of %d blocks: %v", c.Number, c.Total, e)
		}
	}
	// What a snapshot's digest is, one chunk can't tell.
	c := split(t, snapshot(3))[0]
	for _, n := range []int{math.MinInt, -1, 0, 1, 1 << 32, math.MaxInt} {
		if e := Check(with(c, func(c *Chunk) { c.Digest = n })); e != api.OK {
			t.Errorf("digest %d: %v", n, e)
		}
	}
}

// wrongChunks have one thing that is not right.
func wrongChunks(t *testing.T) []Chunk {
	l := []Chunk{{}, {Total: 1}, {Total: 1, Sum: 1}, {Total: 0, Number: -1}, {Total: -8, Number: -1}}
	// Behind the last chunk there is none, not even one without blocks.
	l = append(l, Chunk{Total: 8, Number: 1}, Chunk{Total: 16, Number: 2}, Chunk{Total: 1024, Number: 128})
	for _, n := range []int{1, 8, 9, 16, 20, 1024} {
		for _, c := range split(t, snapshot(n)) {
			if c.Number > 2 && c.Number < 126 {
				continue
			}
			for _, total := range []int{math.MinInt, -n, -1, 0, 1025, 1032, math.MaxInt - 6, math.MaxInt} {
				l = append(l, with(c, func(c *Chunk) { c.Total = total }))
			}
			for _, number := range []int{math.MinInt, math.MinInt / 8, -1, (n + 7) / 8, 128, math.MaxInt / 8, math.MaxInt} {
				l = append(l, with(c, func(c *Chunk) { c.Number = number }))
			}
			for _, sum := range []int{c.Sum + 1, c.Sum - 1, -c.Sum, c.Sum + 1<<32, c.Sum - 1<<32, ^c.Sum, math.MinInt, math.MaxInt} {
				l = append(l, with(c, func(c *Chunk) { c.Sum = sum }))
			}
			for _, data := range []string{"", c.Data[1:], c.Data + "\x00", c.Data[:len(c.Data)-api.BlockSize], c.Data + c.Data[:api.BlockSize], c.Data + c.Data} {
				l = append(l, with(c, func(c *Chunk) { c.Data, c.Sum = data, plainSum(data) }))
			}
			turned := []byte(c.Data)
			turned[len(turned)/2] ^= 4
			l = append(l, with(c, func(c *Chunk) { c.Data = string(turned) }))
		}
	}
	return l
}

func TestCheckWrong(t *testing.T) {
	for _, c := range wrongChunks(t) {
		if e := Check(c); e != api.ErrForm {
			t.Errorf("chunk %d of %d blocks, sum %d, %d bytes: %v", c.Number, c.Total, c.Sum, len(c.Data), e)
		}
	}
	// Another number is right where the piece is as large, and another total where the piece is.
	c := split(t, snapshot(20))[2]
	for total := range 40 {
		for number := range 8 {
			want := api.ErrForm
			if total >= 1 && number*8 < total && min(8, total-number*8) == 4 {
				want = api.OK
			}
			if e := Check(with(c, func(c *Chunk) { c.Total, c.Number = total, number })); e != want {
				t.Errorf("chunk %d of %d blocks: %v, want %v", number, total, e, want)
			}
		}
	}
}
