package fsck

import (
	"slices"
	"strconv"
	"strings"
	"testing"

	"cartulary/api"
	"cartulary/fs"
	"cartulary/model"
)

// plain are blocks that are held against the rules byte by byte, index by index.
type plain struct {
	api.Shape
	blocks []string
}

// two is the number of two bytes.
func two(s string, at int) int { return int(s[at]) + 256*int(s[at+1]) }

func (p plain) first() int           { return p.Journal + 2 + (p.Inodes+3)/4 }
func (p plain) raw(i int) string     { return p.blocks[p.Journal+2+i/4][i%4*32 : i%4*32+32] }
func (p plain) kind(i int) int       { return int(p.raw(i)[0]) }
func (p plain) size(i int) int       { return two(p.raw(i), 2) + two(p.raw(i), 4)<<16 }
func (p plain) isData(b int) bool    { return b >= p.first() && b < p.Blocks }
func (p plain) num(b, k int) int     { return two(p.blocks[b], 2*k) }
func (p plain) isSet(b int) bool     { return p.blocks[p.Journal+1][b/8]/(1<<(b%8))%2 == 1 }
func (p plain) top(i, place int) int { return two(p.raw(i), 6+2*place) }

// namers are the blocks of names of an inode, and the numbers that stand in it and in these; a number that is no data block's is not followed.
func (p plain) namers(i int) ([]int, []int) {
	namers, numbers := []int{}, []int{}
	for place := range 8 {
		numbers = append(numbers, p.top(i, place))
	}
	follow := func(b int) []int {
		if !p.isData(b) {
			return nil
		}
		namers = append(namers, b)
		list := []int{}
		for k := range 64 {
			list = append(list, p.num(b, k))
		}
		numbers = append(numbers, list...)
		return list
	}
	follow(p.top(i, 6))
	for _, b := range follow(p.top(i, 7)) {
		follow(b)
	}
	return namers, numbers
}

// at is the block of an index, where all that is named are data blocks.
func (p plain) at(i, index int) int {
	if index < 6 {
		return p.top(i, index)
	}
	in, k := p.top(i, 6), index-6
	if index >= 70 {
		in, k = p.top(i, 7), (index-70)%64
		if in != 0 {
			in = p.num(in, (index-70)/64)
		}
	}
	if in == 0 {
		return 0
	}
	return p.num(in, k)
}

// bytes are an inode's, from 0 to Size.
func (p plain) bytes(i int) string {
	out := strings.Builder{}
	for index := 0; index*128 < p.size(i); index++ {
		if b := p.at(i, index); b != 0 {
			out.WriteString(p.blocks[b])
		} else {
			out.WriteString(zeros(128))
		}
	}
	return out.String()[:p.size(i)]
}

// broken1 to broken6 tell whether a rule is broken, where those ahead hold.
func (p plain) broken1() bool {
	for i := range p.Inodes {
		raw := p.raw(i)
		most := []int{0, 100, 1}[min(int(raw[0]), 2)]
		wrong := raw[0] > 2 || int(raw[1]) > most || most > 0 && raw[1] < 1 || p.size(i) > 533248 || raw[22:] != zeros(10) || raw[0] == 0 && raw != zeros(32)
		for place := range 8 {
			wrong = wrong || p.top(i, place) > 1023
		}
		if wrong || i == 0 && raw[0] != 2 {
			return true
		}
	}
	return false
}

func (p plain) broken2() bool {
	all := []int{}
	for i := range p.Inodes {
		namers, numbers := p.namers(i)
		for _, n := range numbers {
			if n != 0 && slices.Contains(all, n) || n != 0 && !p.isData(n) {
				return true
			}
			if n != 0 {
				all = append(all, n)
			}
		}
		for _, b := range namers {
			if p.blocks[b] == zeros(128) {
				return true
			}
		}
	}
	return false
}

func (p plain) broken3() bool {
	taken := make([]bool, 1024)
	for i := range p.Inodes {
		_, numbers := p.namers(i)
		for _, n := range numbers {
			taken[n] = n != 0
		}
	}
	for b := range taken {
		if taken[b] != p.isSet(b) {
			return true
		}
	}
	return false
}

func (p plain) broken4() bool {
	for i := range p.Inodes {
		for index := range 4166 {
			b := p.at(i, index)
			if b == 0 {
				continue
			}
			if index*128 >= p.size(i) {
				return true
			}
			for k := range 128 {
				if index*128+k >= p.size(i) && p.blocks[b][k] != 0 {
					return true
				}
			}
		}
	}
	return false
}

func (p plain) broken5() bool {
	for i := range p.Inodes {
		if p.kind(i) != 2 {
			continue
		}
		names := []string{}
		for index := 0; index*128 < p.size(i); index++ {
			if p.at(i, index) == 0 {
				return true
			}
		}
		if p.size(i)%32 != 0 {
			return true
		}
		for rest := p.bytes(i); rest != ""; rest = rest[32:] {
			if rest[:32] == zeros(32) {
				continue
			}
			if two(rest, 0) < 1 || two(rest, 0) >= p.Inodes || rest[2] < 1 || rest[2] > 24 {
				return true
			}
			name := rest[3 : 3+rest[2]]
			if name == "." || name == ".." || strings.ContainsAny(name, "/\x00") || rest[3+rest[2]:32] != zeros(29-int(rest[2])) || slices.Contains(names, name) {
				return true
			}
			names = append(names, name)
		}
	}
	return false
}

// names are a directory's, and their inodes.
func (p plain) names(i int) ([]string, []int) {
	names, inodes := []string{}, []int{}
	if p.kind(i) != 2 {
		return names, inodes
	}
	for rest := p.bytes(i); rest != ""; rest = rest[32:] {
		if rest[0] != 0 {
			names, inodes = append(names, rest[3:3+rest[2]]), append(inodes, int(rest[0]))
		}
	}
	return names, inodes
}

func (p plain) broken6() bool {
	links := make([]int, p.Inodes)
	for i := range p.Inodes {
		_, inodes := p.names(i)
		for _, to := range inodes {
			links[to]++
		}
	}
	for i := 1; i < p.Inodes; i++ {
		if links[i] != int(p.raw(i)[1]) {
			return true
		}
	}
	reached := make([]bool, p.Inodes)
	reached[0] = true
	for range p.Inodes {
		for i := range p.Inodes {
			_, inodes := p.names(i)
			for _, to := range inodes {
				reached[to] = reached[to] || reached[i]
			}
		}
	}
	for i := range p.Inodes {
		if p.kind(i) != 0 && !reached[i] {
			return true
		}
	}
	return links[0] > 0
}

func (p plain) rule() int {
	for i, broken := range []func() bool{p.broken1, p.broken2, p.broken3, p.broken4, p.broken5, p.broken6} {
		if broken() {
			return i + 1
		}
	}
	return 0
}

// tree is what blocks say that are a file system, from an inode on.
func (p plain) tree(way string, i int) []File {
	f := File{Path: way, Inode: i, Kind: p.kind(i), Links: int(p.raw(i)[1]), Size: p.size(i)}
	for index := range 4166 {
		if b := p.at(i, index); b != 0 {
			f.Blocks = append(f.Blocks, index)
			if f.Kind == 1 {
				f.Data += p.blocks[b]
			}
		}
	}
	if way == "" {
		f.Path = "/"
	}
	out := []File{f}
	names, inodes := p.names(i)
	for _, name := range slices.Sorted(slices.Values(names)) {
		out = append(out, p.tree(way+"/"+name, inodes[slices.Index(names, name)])...)
	}
	return out
}

// random is an operation on a few paths.
func random(r *source) api.Op {
	ways := []string{"/a", "/b", "/d", "/d/a", "/d/b", "/d/e", "/d/e/f"}
	op := api.Op{Kind: 1 + r.next(11), Path: ways[r.next(7)], To: ways[r.next(7)]}
	op.At = 128*[]int{0, 1, 5, 6, 69, 70, 133, 134, 4165}[r.next(9)] + r.next(3)
	op.Data = strings.Repeat(strconv.Itoa(r.next(10)), 1+r.next(300))
	op.N = op.At + r.next(2)
	if op.Kind == api.OpTruncate && r.next(2) == 0 {
		op.Kind = api.OpMkdir
	}
	return op
}

// some are a file system's blocks behind some operations, held against the model (18.3).
func some(t *testing.T, r *source, s api.Shape) []string {
	t.Helper()
	blocks := made(t, s)
	m, _ := model.New(s)
	ops := []api.Op{mkdir("/d"), create("/a"), link("/a", "/d/a"), write("/a", 128*r.next(200), "x"), cut("/a", 128*300)}
	for range r.next(40) {
		ops = append(ops, random(r))
	}
	for _, op := range ops {
		_, c, e := fs.Do(s, blocks, op)
		if e != api.OK {
			t.Fatalf("%+v: %v", op, e)
		}
		m.Do(op)
		blocks = apply(blocks, c)
	}
	tree, e := Tree(s, blocks)
	if e != api.OK || !slices.EqualFunc(tree, m.Tree(), func(a File, b model.File) bool { return sameFile(a, File(b)) }) {
		t.Fatalf("%v, %v, want %v", tree, e, m.Tree())
	}
	return blocks
}

// spoil has some bytes be others: such as break one rule most often, and not those ahead.
func (p plain) spoil(r *source) plain {
	table, data := p.Journal+2, p.first()
	i := r.next(p.Inodes)
	at := table + i/4
	place := i%4*32 + 6 + 2*r.next(8)
	b := data + r.next(p.Blocks-data)
	if r.next(3) > 0 {
		b = data + r.next(12)
	}
	flip := func(b int) {
		bits := p.blocks[p.Journal+1]
		p.blocks = put(p.blocks, p.Journal+1, b/8, string([]byte{bits[b/8] ^ 1<<(b%8)}))
	}
	switch r.next(9) {
	case 0: // any byte
		p.blocks = put(p.blocks, p.Journal+1+r.next(p.Blocks-p.Journal-1), r.next(128), string([]byte{byte(r.next(256))}))
	case 1: // a number of an inode
		p.blocks = put(p.blocks, at, place, number(b))
		flip(b)
	case 2: // a number that is named no longer, and its bit
		if old := two(p.blocks[at], place); old < 1024 {
			p.blocks = put(p.blocks, at, place, number(0))
			flip(old)
		}
	case 3: // a number in a block
		p.blocks = put(p.blocks, b, 2*r.next(64), number(data+r.next(p.Blocks-data)))
	case 4: // a bit
		flip(r.next(1024))
	case 5: // a size
		size := p.size(i) + []int{-32, -1, 1, 32, 128}[r.next(5)]
		p.blocks = put(p.blocks, at, i%4*32+2, number(max(0, size)))
	case 6: // a slot's bytes
		p.blocks = put(p.blocks, b, 32*r.next(4)+r.next(4), string([]byte{byte(r.next(10))}))
	case 7: // links
		p.blocks = put(p.blocks, at, i%4*32+1, string([]byte{byte(r.next(4))}))
	case 8: // a slot is free, or another one's again
		k := r.next(4)
		p.blocks = put(p.blocks, b, 32*r.next(4), []string{zeros(32), p.blocks[b][32*k : 32*k+32]}[r.next(2)])
	}
	return p
}

// 18.1 to 18.3, P1: file systems of which some bytes are others, against the rules as they are counted plainly.
func TestSpoilt(t *testing.T) {
	seen := map[int]int{}
	for seed := range 400 {
		r := &source{uint32(seed)}
		s := []api.Shape{eight(), {Blocks: 40, Journal: 21, Inodes: 5}, {Blocks: 300, Journal: 20, Inodes: 13}}[seed%3]
		good := plain{s, some(t, r, s)}
		for range 30 {
			p := good
			for range r.next(3) + 1 {
				p = p.spoil(r)
			}
			want := p.rule()
			seen[want]++
			rule, e := Check(s, p.blocks)
			if rule != want || (e == api.OK) != (want == 0) {
				t.Fatalf("seed %d: rule %d, %v, want %d", seed, rule, e, want)
			}
			tree, e := Tree(s, p.blocks)
			if want == 0 && !slices.EqualFunc(tree, p.tree("", 0), sameFile) || want > 0 && (len(tree) != 0 || e != api.ErrTree) {
				t.Fatalf("seed %d: %v, %v", seed, tree, e)
			}
		}
	}
	for rule := range 7 {
		if seen[rule] < 100 {
			t.Errorf("rule %d was told %d times", rule, seen[rule])
		}
	}
}

// P1: blocks that are no file system at all, and inodes that name one another's blocks as often as can be.
func TestAnyBytes(t *testing.T) {
	for seed := range 200 {
		r := &source{uint32(seed)}
		p := plain{eight(), blank(eight())}
		for b := range p.blocks {
			text := []byte{}
			for range 128 {
				text = append(text, byte([]int{r.next(256), r.next(60), 0}[(seed+r.next(2))%3]))
			}
			p.blocks[b] = string(text)
		}
		checkRule(t, p.Shape, p.blocks, p.rule(), "any bytes")
		for i := range 8 {
			p.blocks = put(p.blocks, 22+i/4, i%4*32, string([]byte{byte(2 - (i+1)/2%2), 1, 0, 1, 0, 0})+strings.Repeat(number(24+r.next(36)), 8)+zeros(10))
		}
		checkRule(t, p.Shape, p.blocks, 2, "any numbers")
	}
	greatest := plain{api.Shape{Blocks: 1024, Journal: 20, Inodes: 64}, blank(api.Shape{Blocks: 1024})}
	for b := 38; b < 1024; b++ {
		greatest.blocks[b] = strings.Repeat(number(1023), 64)
	}
	for i := range 64 {
		greatest.blocks = put(greatest.blocks, 22+i/4, i%4*32, "\x02\x01\x00\x23\x08\x00"+strings.Repeat(number(1000), 8)+zeros(10))
	}
	checkRule(t, greatest.Shape, greatest.blocks, 2, "every number the same")
}
