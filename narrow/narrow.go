// Package narrow is layer 1: numbers of fewer bits. See shared/doc/01-narrow.md.
package narrow

import (
	"math/bits"

	"cartulary/api"
)

// The kinds: those with a sign, then as many without one.
const (
	signed8 = iota + 1
	signed16
	signed32
	signed64
	unsigned8
	unsigned16
	unsigned32
	unsigned64
)

// maxWidth keeps a field's number, and one more than the highest of them, within an int.
const maxWidth = 62

// To is n as the kind has it.
func To(kind, n int) (int, api.Errno) {
	if !isKind(kind) {
		return 0, api.ErrArg
	}
	return as(kind, n), api.OK
}

// Fits tells whether n is a number of the kind.
func Fits(kind, n int) bool {
	return isKind(kind) && as(kind, n) == n
}

// Left is n as the kind has it, shifted left.
func Left(kind, n, by int) (int, api.Errno) {
	if !isKind(kind) || by < 0 {
		return 0, api.ErrArg
	}
	return as(kind, as(kind, n)<<by), api.OK
}

// Right is n as the kind has it, shifted right.
func Right(kind, n, by int) (int, api.Errno) {
	if !isKind(kind) || by < 0 {
		return 0, api.ErrArg
	}
	if kind == unsigned64 {
		// Its great numbers are told below 0: an int's shift would copy the highest bit.
		return int(uint64(n) >> by), api.OK
	}
	return as(kind, n) >> by, api.OK
}

// Swap is n as the kind has it, with its bytes the other way round.
func Swap(kind, n int) (int, api.Errno) {
	if !isKind(kind) {
		return 0, api.ErrArg
	}
	swapped := bits.ReverseBytes64(uint64(n)) >> (64 - bitsOf(kind))
	return as(kind, int(swapped)), api.OK
}

// Field is the number that the bits of n from at on make, so many as width says.
func Field(n, at, width int) (int, api.Errno) {
	if !isField(at, width) {
		return 0, api.ErrArg
	}
	return int(uint64(n) >> at & mask(width)), api.OK
}

// Put is n with v in the bits from at on, so many as width says.
func Put(n, at, width, v int) (int, api.Errno) {
	if !isField(at, width) || v < 0 || v >= 1<<width {
		return 0, api.ErrArg
	}
	return int(uint64(n)&^(mask(width)<<at) | uint64(v)<<at), api.OK
}

func isKind(kind int) bool {
	return kind >= signed8 && kind <= unsigned64
}

// isField takes width from 64, since at and width together may wrap round.
func isField(at, width int) bool {
	return at >= 0 && width >= 1 && width <= maxWidth && at <= 64-width
}

func mask(width int) uint64 {
	return 1<<width - 1
}

func bitsOf(kind int) int {
	return 8 << ((kind - 1) % 4)
}

// as is n as a kind has it. A kind with a sign says what its highest bit takes away, and then counts as the one without a sign does.
func as(kind, n int) int {
	less := 0
	switch kind {
	case signed8:
		if int8(n) < 0 {
			less = 1 << 8
		}
		fallthrough
	case unsigned8:
		return int(uint8(n)) - less
	case signed16:
		if int16(n) < 0 {
			less = 1 << 16
		}
		fallthrough
	case unsigned16:
		return int(uint16(n)) - less
	case signed32:
		if int32(n) < 0 {
			less = 1 << 32
		}
		fallthrough
	case unsigned32:
		return int(uint32(n)) - less
	}
	return n // 64 bits, with a sign or without, are told as an int
}
