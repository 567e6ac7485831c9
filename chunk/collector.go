package chunk

import (
	"strings"

	"cartulary/api"
	"cartulary/sum"
)

// Collector gathers the chunks of one snapshot. Its map is made for the first chunk, so that a collector that New did not make is none the less one.
type Collector struct {
	digest, total int
	pieces        map[int]piece
}

// piece is what a chunk carried.
type piece struct{ data string }

// New is a collector without chunks.
func New() *Collector { return &Collector{} }

// Add gathers a chunk: whether it is new.
func (x *Collector) Add(c Chunk) (bool, api.Errno) {
	if e := Check(c); e != api.OK {
		return false, e
	}
	if x == nil || x.hasBegun() && (c.Digest != x.digest || c.Total != x.total) {
		return false, api.ErrState
	}
	if x.has(c.Number) {
		return false, api.OK
	}
	if !x.hasBegun() {
		x.digest, x.total, x.pieces = c.Digest, c.Total, map[int]piece{}
	}
	x.pieces[c.Number] = piece{c.Data}
	return true, api.OK
}

// Missing are the numbers that are not there.
func (x *Collector) Missing() []int {
	if !x.hasBegun() {
		return nil
	}
	var numbers []int
	for number := range count(x.total) {
		if !x.has(number) {
			numbers = append(numbers, number)
		}
	}
	return numbers
}

// Blocks are the snapshot's blocks.
func (x *Collector) Blocks() ([]string, api.Errno) {
	if !x.hasBegun() || len(x.pieces) < count(x.total) {
		return nil, api.ErrState
	}
	all := x.joined()
	// Chunks may be right one by one and yet be none of the snapshot's.
	if sum.Of(all) != x.digest {
		return nil, api.ErrSum
	}
	blocks := make([]string, x.total)
	for i := range blocks {
		blocks[i] = all[i*api.BlockSize : (i+1)*api.BlockSize]
	}
	return blocks, api.OK
}

// joined is all that was gathered, by the numbers.
func (x *Collector) joined() string {
	var b strings.Builder
	for number := range count(x.total) {
		b.WriteString(x.pieces[number].data)
	}
	return b.String()
}

func (x *Collector) hasBegun() bool {
	return x != nil && len(x.pieces) > 0
}

func (x *Collector) has(number int) bool {
	_, ok := x.pieces[number]
	return ok
}
