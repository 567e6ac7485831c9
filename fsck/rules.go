package fsck

import (
	"cartulary/api"
	"cartulary/path"
)

const byteBits = 8

// rules are the rules in their order; each is asked only where those ahead hold.
func (d *disk) rules() []func() bool {
	return []func() bool{d.inodesHold, d.namesHold, d.bitsHold, d.sizesHold, d.slotsHold, d.linksHold}
}

// inodesHold is rule 1: the inodes are some, and the root is a directory.
func (d *disk) inodesHold() bool {
	for i := range d.inodes {
		if _, e := d.view.Inode(i); e != api.OK {
			return false
		}
	}
	return d.inode(root).Kind == api.KindDir
}

// namesHold is rule 2: what is named is a data block, and once; what is to name does.
func (d *disk) namesHold() bool {
	for b, times := range d.named() {
		if !d.isData(b) || times > 1 {
			return false
		}
	}
	for _, n := range d.used {
		for m := range d.marks(n) {
			if m.levels > 0 && isZero(d.blocks[m.block]) {
				return false
			}
		}
	}
	return true
}

// named is how often each block is named that is.
func (d *disk) named() map[int]int {
	times := map[int]int{}
	for _, n := range d.used {
		for m := range d.marks(n) {
			times[m.block]++
		}
	}
	return times
}

// bitsHold is rule 3: the bitmap has what is named, and nothing else.
func (d *disk) bitsHold() bool {
	named := d.named()
	bits := d.blocks[d.regions.Bitmap]
	for b := range byteBits * api.BlockSize {
		taken := bits[b/byteBits]>>(b%byteBits)&1 == 1
		if taken != (named[b] > 0) {
			return false
		}
	}
	return true
}

// sizesHold is rule 4: there is nothing from Size on.
func (d *disk) sizesHold() bool {
	for _, n := range d.used {
		for m := range d.own(n) {
			left := n.Size - m.first*api.BlockSize
			if left <= 0 || !isZero(d.blocks[m.block][min(left, api.BlockSize):]) {
				return false
			}
		}
	}
	return true
}

// slotsHold is rule 5: directories are slots.
func (d *disk) slotsHold() bool {
	for _, n := range d.used {
		if n.Kind == api.KindDir && !d.isDirectory(n) {
			return false
		}
	}
	return true
}

func (d *disk) isDirectory(n api.Inode) bool {
	// No block is behind Size, so that with a hole there are fewer bytes.
	data := d.content(n)
	if n.Size%slotBytes != 0 || len(data) < n.Size {
		return false
	}
	for rest := data[:n.Size]; rest != ""; rest = rest[slotBytes:] {
		if raw := rest[:slotBytes]; !isZero(raw) && !d.isSlot(raw) {
			return false
		}
	}
	names := map[string]int{}
	for _, s := range d.slots(n) {
		names[s.name]++
		if names[s.name] > 1 {
			return false
		}
	}
	return true
}

// isSlot tells whether bytes are a slot that is not free.
func (d *disk) isSlot(raw string) bool {
	number := numberIn(raw)
	if number <= root || number >= d.inodes || raw[lengthAt] > api.MaxName {
		return false
	}
	name := nameIn(raw)
	return path.Name(name) == api.OK && isZero(raw[nameAt+len(name):])
}

// linksHold is rule 6: each inode has as many names as it tells, and a path. (That the root has no name, rule 5 says.)
func (d *disk) linksHold() bool {
	links := map[int]int{}
	for _, n := range d.used {
		for _, s := range d.slots(n) {
			links[s.inode]++
		}
	}
	for i := root + 1; i < d.inodes; i++ {
		// Of one that is free Links is 0.
		if links[i] != d.inode(i).Links {
			return false
		}
	}
	return d.allReached()
}

// allReached tells whether all inodes that are not free have a path. Each directory but the root has one name, and the root none, so that no path goes round.
func (d *disk) allReached() bool {
	reached := map[int]int{}
	for _, i := range d.paths {
		reached[i]++
	}
	for i := range d.used {
		if reached[i] == 0 {
			return false
		}
	}
	return true
}
