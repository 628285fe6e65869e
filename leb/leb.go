// Package leb puts and reads numbers in groups of seven bits: see doc/01-leb.md.
package leb

import (
	"slices"

	"cloakroom/api"
)

const (
	groupBits = 7
	more      = 1 << groupBits // stands in every byte of a number but its last
	wordBits  = 64
)

// PutU answers b and the shortest bytes of v.
func PutU(b []byte, v uint64) []byte {
	var groups []byte
	for v >= more {
		groups = append(groups, byte(v)|more)
		v >>= groupBits
	}
	return put(b, append(groups, byte(v))...)
}

// PutS answers b and the shortest bytes of v, signed.
func PutS(b []byte, v int64) []byte {
	var groups []byte
	for !alike(v >> (groupBits - 1)) {
		groups = append(groups, byte(v)|more)
		v >>= groupBits
	}
	return put(b, append(groups, byte(v)&^more)...)
}

// U32 reads the unsigned number of 32 bits at b's front.
func U32(b []byte) (v uint32, n int, e api.Errno) {
	u, n, e := take(b, 32, noughts)
	return uint32(u), n, e
}

// U64 reads the unsigned number of 64 bits at b's front.
func U64(b []byte) (v uint64, n int, e api.Errno) {
	return take(b, 64, noughts)
}

// S32 reads the signed number of 32 bits at b's front.
func S32(b []byte) (v int32, n int, e api.Errno) {
	s, n, e := takeSigned(b, 32)
	return int32(s), n, e
}

// S33 reads the signed number of 33 bits at b's front.
func S33(b []byte) (v int64, n int, e api.Errno) {
	return takeSigned(b, 33)
}

// S64 reads the signed number of 64 bits at b's front.
func S64(b []byte) (v int64, n int, e api.Errno) {
	return takeSigned(b, 64)
}

// put never writes behind b in place: b's spare room is its owner's.
func put(b []byte, groups ...byte) []byte {
	return slices.Concat(b, groups)
}

// take reads a number of so many bits, its sign not yet spread. In the last byte that the number may have, only room bits of the group are its own: fits tells whether the others may be.
func take(b []byte, bits int, fits func(group byte, room int) bool) (v uint64, n int, e api.Errno) {
	for i, c := range b {
		group := c &^ more
		room := bits - i*groupBits
		if room <= groupBits && (c >= more || !fits(group, room)) {
			return 0, 0, api.ErrForm
		}
		v |= uint64(group) << (i * groupBits)
		if c < more {
			return v, i + 1, api.OK
		}
	}
	return 0, 0, api.ErrShort
}

func takeSigned(b []byte, bits int) (v int64, n int, e api.Errno) {
	u, n, e := take(b, bits, signs)
	if e != api.OK {
		return 0, 0, e
	}
	// Ten groups are wider than a word: the sign stands at its top already.
	unread := max(0, wordBits-n*groupBits)
	return int64(u<<unread) >> unread, n, api.OK
}

func noughts(group byte, room int) bool {
	return group>>room == 0
}

func signs(group byte, room int) bool {
	// The shift to the left brings the group's highest bit to where int8 has its sign.
	return alike(int64(int8(group<<1) >> room))
}

// alike tells whether all bits of v are the same.
func alike(v int64) bool {
	return v == 0 || v == -1
}
