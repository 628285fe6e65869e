package code_test

import (
	"slices"
	"strings"

	"cloakroom/api"
	"cloakroom/leb"
	"cloakroom/probe"
)

// cursor goes through bytes by the chapter's words: plainly, one call for each block.
type cursor struct {
	probe.Cursor
	l []api.Instr
}

// expect works out by the chapter's words what Take answers.
func expect(b []byte) (l []api.Instr, n int, e api.Errno) {
	c := cursor{Cursor: probe.Cursor{Bytes: b}}
	if e := probe.Met(func() { c.upToEnd(false, 0) }); e != api.OK {
		return nil, 0, e
	}
	return c.l, c.At, api.OK
}

// upToEnd reads instructions with the end that closes this depth.
func (c *cursor) upToEnd(mayElse bool, depth int) {
	for {
		probe.Ask(len(c.l) < 600, api.ErrLong)
		x := c.instr(depth)
		c.l = append(c.l, x)
		switch x.Op {
		case 0x02, 0x03, 0x04:
			c.upToEnd(x.Op == 0x04, depth+1)
		case 0x05:
			probe.Ask(mayElse, api.ErrForm)
			mayElse = false
		case 0x0b:
			return
		}
	}
}

func (c *cursor) number() uint32 { return probe.Read(&c.Cursor, leb.U32) }

func (c *cursor) nought() uint32 {
	probe.Ask(c.Octet() == 0, api.ErrForm)
	return 0
}

func (c *cursor) valueType() byte {
	t := c.Octet()
	probe.Ask(strings.IndexByte("\x7d\x7c\x7b", t) < 0, api.ErrProfile)
	probe.Ask(strings.IndexByte("\x7f\x7e\x70\x6f", t) >= 0, api.ErrForm)
	return t
}

func (c *cursor) blockType() int {
	known := map[byte]int{0x40: -64, 0x7f: -1, 0x7e: -2, 0x70: -16, 0x6f: -17}
	probe.Ask(c.At < len(c.Bytes), api.ErrShort)
	first := c.Bytes[c.At]
	if t, ok := known[first]; ok {
		c.At++
		return t
	}
	if strings.IndexByte("\x7d\x7c\x7b", first) >= 0 {
		panic(api.ErrProfile)
	}
	t := probe.Read(&c.Cursor, leb.S33)
	probe.Ask(t >= 0, api.ErrForm)
	return int(t)
}

func (c *cursor) whichOp() int {
	first := int(c.Octet())
	if first != 0xfc {
		return first
	}
	number := c.number()
	probe.Ask(number <= 255, api.ErrForm)
	return 0xfc00 + int(number)
}

func (c *cursor) instr(depth int) api.Instr {
	x := api.Instr{Op: c.whichOp()}
	switch {
	case in(x.Op, bare):
	case in(x.Op, ones):
		x.A = c.number()
	case in(x.Op, twos):
		x.A = c.number()
		x.B = c.number()
	case x.Op == 0xfc08:
		x.A = c.number()
		x.B = c.nought()
	case x.Op == 0xfc0a:
		x.A = c.nought()
		x.B = c.nought()
	case x.Op == 0x3f, x.Op == 0x40, x.Op == 0xfc0b:
		x.A = c.nought()
	case x.Op == 0x41:
		x.N = uint64(probe.Read(&c.Cursor, leb.S32)) & (1<<32 - 1)
	case x.Op == 0x42:
		x.N = uint64(probe.Read(&c.Cursor, leb.S64))
	case in(x.Op, loadsAndStores):
		x.A = c.number()
		probe.Ask(x.A <= 31, api.ErrForm)
		x.B = c.number()
	case x.Op >= 0x02 && x.Op <= 0x04:
		x.T = c.blockType()
		probe.Ask(depth < 32, api.ErrLong)
	case x.Op == 0x0e:
		size := c.number()
		probe.Ask(size <= 600, api.ErrLong)
		for range size {
			x.L = append(x.L, c.number())
		}
		x.A = c.number()
	case x.Op == 0x1c:
		probe.Ask(c.number() == 1, api.ErrForm)
		x.A = uint32(c.valueType())
	case x.Op == 0xd0:
		x.A = uint32(c.valueType())
		probe.Ask(x.A == 0x70 || x.A == 0x6f, api.ErrForm)
	default:
		probe.Ask(!in(x.Op, floatsAndVectors), api.ErrProfile)
		panic(api.ErrForm)
	}
	return x
}

func in(x int, list []int) bool { return slices.Contains(list, x) }

func span(first, last int) (list []int) {
	for x := first; x <= last; x++ {
		list = append(list, x)
	}
	return list
}

// The lists of layer 5's chapter.
var (
	bare             = slices.Concat([]int{0x00, 0x01, 0x05, 0x0b, 0x0f, 0x1a, 0x1b}, span(0x45, 0x5a), span(0x67, 0x8a), []int{0xa7, 0xac, 0xad}, span(0xc0, 0xc4), []int{0xd1})
	ones             = slices.Concat([]int{0x0c, 0x0d, 0x10}, span(0x20, 0x26), []int{0xd2, 0xfc09, 0xfc0d, 0xfc0f, 0xfc10, 0xfc11})
	twos             = []int{0x11, 0xfc0c, 0xfc0e}
	loadsAndStores   = slices.Concat([]int{0x28, 0x29}, span(0x2c, 0x37), span(0x3a, 0x3e))
	floatsAndVectors = slices.Concat([]int{0x2a, 0x2b, 0x38, 0x39, 0x43, 0x44}, span(0x5b, 0x66), span(0x8b, 0xa6), span(0xa8, 0xab), span(0xae, 0xbf), span(0xfc00, 0xfc07), []int{0xfd})
)

// alike holds all fields against each other, without the program's help; nil and empty are one.
func alike(a, b []api.Instr) bool {
	if len(a) != len(b) {
		return false
	}
	for i, x := range a {
		y := b[i]
		if x.Op != y.Op || x.A != y.A || x.B != y.B || x.N != y.N || x.T != y.T || !slices.Equal(x.L, y.L) {
			return false
		}
	}
	return true
}
