// Package probe is for tests alone: it has what the tests of many packages hand in, and look at.
package probe

import "slices"

// Number is what lists hold whose memory is looked at.
type Number interface {
	~byte | ~uint32 | ~uint64 | ~int
}

const (
	spare   = 32
	unasked = 0xa5
)

// Handed lays list into memory with spare room, and tells how to see that neither was changed.
func Handed[N Number](list []N) (handed []N, unchanged func() bool) {
	whole := slices.Concat(list, slices.Repeat([]N{unasked}, spare))
	before := slices.Clone(whole)
	return whole[:len(list):len(whole)], func() bool { return slices.Equal(whole, before) }
}

// Scribble changes all memory that list reaches, its spare room too: who shares some sees it.
func Scribble[N Number](list []N) {
	whole := list[:cap(list)]
	for i := range whole {
		whole[i] ^= 0xff
	}
}

// Rows hands all rows of at most longest of these letters to use, in place of rows by chance.
func Rows(letters string, longest int, use func(row []byte)) {
	var grow func(row []byte)
	grow = func(row []byte) {
		use(slices.Clone(row))
		if len(row) == longest {
			return
		}
		for i := range len(letters) {
			grow(append(row, letters[i]))
		}
	}
	grow(nil)
}
