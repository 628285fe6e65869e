package val_test

import (
	"slices"
	"testing"

	"cloakroom/api"
	"cloakroom/op"
)

// straight is an instruction that takes and gives values of the same types wherever it stands.
type straight struct {
	x            api.Instr
	takes, gives string
}

// straights are all of those, in the world, by the chapter's words.
func straights() (all []straight) {
	add := func(takes, gives string, list ...api.Instr) {
		for _, x := range list {
			all = append(all, straight{x, takes, gives})
		}
	}
	span := func(takes, gives string, first, last int) {
		for x := first; x <= last; x++ {
			add(takes, gives, in(x))
		}
	}
	add("", "", in(0x01), in(0xfc09, 0), in(0xfc09, 1), in(0xfc0d, 0), in(0xfc0d, 1), in(0x10, 0))
	add("", i32, api.Instr{Op: 0x41, N: 1<<32 - 1}, in(0x3f), in(0xfc10, 0), in(0xfc10, 1), in(0x20, 0), in(0x23, 0))
	add("", i64, api.Instr{Op: 0x42, N: 1<<64 - 1}, in(0x23, 1))
	add("", fun, in(0xd0, api.Func), in(0xd2, 1), in(0xd2, 2), in(0x23, 2))
	add("", ext, in(0xd0, api.Ext), in(0x23, 3))
	add("", i64+i32, in(0x10, 3))

	add(i32, i32, in(0x45), in(0x67), in(0x68), in(0x69), in(0xc0), in(0xc1))
	span(i32+i32, i32, 0x46, 0x4f)
	span(i32+i32, i32, 0x6a, 0x78)
	add(i64, i32, in(0x50), in(0xa7))
	span(i64+i64, i32, 0x51, 0x5a)
	add(i64, i64, in(0x79), in(0x7a), in(0x7b), in(0xc2), in(0xc3), in(0xc4))
	span(i64+i64, i64, 0x7c, 0x8a)
	add(i32, i64, in(0xac), in(0xad))

	add(i32, i32, in(0x28), in(0x2c), in(0x2d), in(0x2e), in(0x2f), in(0x40))
	add(i32, i64, in(0x29), in(0x30), in(0x31), in(0x32), in(0x33), in(0x34), in(0x35))
	add(i32+i32, "", in(0x36), in(0x3a), in(0x3b))
	add(i32+i64, "", in(0x37), in(0x3c), in(0x3d), in(0x3e))
	add(i32+i32+i32, "", in(0xfc08, 0), in(0xfc08, 1), in(0xfc0a), in(0xfc0b))

	add(i32, "", in(0x21, 0), in(0x24, 0))
	add(i32, i32, in(0x22, 0))
	add(fun, "", in(0x24, 2))

	for n, t := range []string{fun, ext, fun, ext} {
		a := uint32(n)
		add(i32, t, in(0x25, a))
		add(i32+t, "", in(0x26, a))
		add(t+i32, i32, in(0xfc0f, a))
		add(i32+t+i32, "", in(0xfc11, a))
		add(i32+i32+i32, "", in(0xfc0e, a, a), in(0xfc0e, a, a^2), in(0xfc0c, a%2, a))
	}

	add(i32+i64, i64+i32, in(0x10, 1))
	add(fun, ext+fun, in(0x10, 2))
	for _, b := range []uint32{0, 2} {
		add(i32, "", in(0x11, 0, b))
		add(i32+i64+i32, i64+i32, in(0x11, 1, b))
		add(fun+i32, ext+fun, in(0x11, 2, b))
	}
	for _, t := range []string{i32, i64, fun, ext} {
		add(t+t+i32, t, in(0x1c, uint32(t[0])))
	}
	return all
}

// unlike are the types that t is not.
func unlike(t byte) (list []string) {
	for _, x := range []string{i32, i64, fun, ext} {
		if x[0] != t {
			list = append(list, x)
		}
	}
	return list
}

// eachWrong hands all texts to use that have one type other than types has it.
func eachWrong(types string, use func(wrong string)) {
	for i := range len(types) {
		for _, x := range unlike(types[i]) {
			use(types[:i] + x + types[i+1:])
		}
	}
}

// ahead is handed in ahead of all others, for instructions that name local 0.
const ahead = i32

// run tells if x does not fit that way: behind the first param come those that x takes.
func run(t *testing.T, x api.Instr, takes, gives string, fits bool) {
	t.Helper()
	l := append(gets(1, 1+len(takes)), x)
	hold(t, world(), typed(ahead+takes, gives), body(l...), fits)
}

func TestEachInstructionTakesAndGives(t *testing.T) {
	for _, s := range straights() {
		run(t, s.x, s.takes, s.gives, true)
		for _, beneath := range []string{i32, i64, fun, ext, ext + i64} {
			run(t, s.x, beneath+s.takes, beneath+s.gives, true)
			run(t, s.x, beneath+s.takes, s.gives, false)
			run(t, s.x, s.takes, s.gives+beneath, false)
			if beneath+s.gives != s.gives+beneath {
				run(t, s.x, beneath+s.takes, s.gives+beneath, false)
			}
		}
		eachWrong(s.takes, func(wrong string) { run(t, s.x, wrong, s.gives, false) })
		eachWrong(s.gives, func(wrong string) { run(t, s.x, s.takes, wrong, false) })
		for n := 1; n <= len(s.takes); n++ {
			run(t, s.x, s.takes[n:], s.gives, false)
		}
		for n := 1; n <= len(s.gives); n++ {
			run(t, s.x, s.takes, s.gives[n:], false)
		}
	}
}

// TestNoInstructionReachesOutOfItsBlock: what stands there around a block is not the block's.
func TestNoInstructionReachesOutOfItsBlock(t *testing.T) {
	for _, s := range straights() {
		m := world()
		m.Types = append(m.Types, typed("", s.gives))
		for n := range len(s.takes) + 1 {
			l := append(gets(1, 1+len(s.takes)-n), begin(0x02, len(m.Types)-1))
			l = append(append(l, gets(1+len(s.takes)-n, 1+len(s.takes))...), s.x, end)
			fits := n == len(s.takes)
			hold(t, m, typed(ahead+s.takes, s.takes[:len(s.takes)-n]+s.gives), body(l...), fits)
			hold(t, m, typed(ahead+s.takes, s.gives), body(l...), fits)
		}
	}
}

// TestEachInstructionWhereNothingComes: what stands there must fit, what does not may be whatever, and what is given is of its type.
func TestEachInstructionWhereNothingComes(t *testing.T) {
	nowhere := func(x api.Instr, takes, gives string, fits bool) {
		t.Helper()
		l := append([]api.Instr{in(0x00)}, gets(1, 1+len(takes))...)
		hold(t, world(), typed(ahead+takes, gives), body(append(l, x)...), fits)
	}
	for _, s := range straights() {
		for n := range len(s.takes) + 1 {
			nowhere(s.x, s.takes[n:], s.gives, true)
			eachWrong(s.takes[n:], func(wrong string) { nowhere(s.x, wrong, s.gives, false) })
		}
		nowhere(s.x, i64+s.takes, i64+s.gives, true)
		nowhere(s.x, i64+s.takes, i32+i64+fun+i64+s.gives, true)
		nowhere(s.x, ext+s.takes, i64+s.gives, false)
		eachWrong(s.gives, func(wrong string) { nowhere(s.x, s.takes, wrong, false) })
		if s.gives != "" {
			nowhere(s.x, s.takes, s.gives[1:], false)
		}
	}
}

// others are the instructions whose types hang on what stands there, or around.
func others() []int {
	return []int{0x00, 0x02, 0x03, 0x04, 0x05, 0x0b, 0x0c, 0x0d, 0x0e, 0x0f, 0x1a, 0x1b, 0xd1}
}

// TestNoInstructionIsLeftOut: the lists above and the tests of the others are the whole profile.
func TestNoInstructionIsLeftOut(t *testing.T) {
	seen := map[int]int{}
	for _, s := range straights() {
		seen[s.x.Op]++
	}
	for _, x := range op.Names() {
		if (seen[x] > 0) == slices.Contains(others(), x) {
			t.Errorf("%#x is on no list, or on two", x)
		}
	}
}

func TestWhatIsNoInstructionOfTheProfileFitsNowhere(t *testing.T) {
	names := op.Names()
	ops := []int{-1, -0x80, 1 << 32, 1<<32 + 1, 0x10001, 1<<62 + 0x41, -1 << 63}
	for x := range 0x10200 {
		ops = append(ops, x)
	}
	for _, x := range ops {
		if _, ok := slices.BinarySearch(names, x); ok {
			continue
		}
		hold(t, world(), typed("", ""), body(in(x)), false)
		hold(t, world(), typed("", ""), body(in(0x00), in(x), in(0x00)), false)
	}
}

func TestDropTakesOneOfAnyType(t *testing.T) {
	drop := in(0x1a)
	for _, x := range []string{i32, i64, fun, ext} {
		holdOn(t, world(), drop, x, "", true)
		holdOn(t, world(), drop, i64+x, i64, true)
		holdOn(t, world(), drop, i64+x, x+i64, false)
		holdOn(t, world(), drop, x, x, false)
		hold(t, world(), typed("", x), body(in(0x00), in(0xd0, api.Func), drop), true)
		hold(t, world(), typed(x, ""), body(in(0x20, 0), begin(0x02, -64), drop, end), false)
		hold(t, world(), typed(x, x), body(in(0x20, 0), begin(0x02, -64), in(0x00), drop, end), true)
	}
	holdOn(t, world(), drop, "", "", false)
	hold(t, world(), typed("", ""), body(in(0x00), drop, drop), true)
}

func TestIsNullTakesReferences(t *testing.T) {
	isNull := in(0xd1)
	for _, x := range []string{fun, ext} {
		holdOn(t, world(), isNull, x, i32, true)
		holdOn(t, world(), isNull, i64+x, i64+i32, true)
		holdOn(t, world(), isNull, x, x, false)
		holdOn(t, world(), isNull, x, i64, false)
		holdOn(t, world(), isNull, x, "", false)
		hold(t, world(), typed(x, i32), body(in(0x20, 0), begin(0x02, -1), isNull, end), false)
		hold(t, world(), typed(x, i32), body(in(0x00), in(0x20, 0), isNull), true)
	}
	for _, x := range []string{i32, i64} {
		holdOn(t, world(), isNull, x, i32, false)
		hold(t, world(), typed(x, i32), body(in(0x00), in(0x20, 0), isNull), false)
	}
	holdOn(t, world(), isNull, "", i32, false)
	hold(t, world(), typed("", i32), body(in(0x00), isNull), true)
	hold(t, world(), typed("", i64), body(in(0x00), isNull), false)
}

func TestSelectWithoutTypeIsForNumbers(t *testing.T) {
	choose := in(0x1b)
	for _, x := range []string{i32, i64, fun, ext} {
		number := x == i32 || x == i64
		holdOn(t, world(), choose, x+x+i32, x, number)
		holdOn(t, world(), choose, ext+x+x+i32, ext+x, number)
		holdOn(t, world(), choose, x+i32, x, false)
		holdOn(t, world(), choose, i32, x, false)
		for _, y := range unlike(x[0]) {
			holdOn(t, world(), choose, x+y+i32, x, false)
			holdOn(t, world(), choose, x+y+i32, y, false)
			holdOn(t, world(), choose, x+x+i32, y, false)
			holdOn(t, world(), choose, x+x+y, x, y == i32 && number)
		}
		// where nothing comes: one of the two, or none, stands there
		for _, n := range []int{0, 1, 2} {
			l := append([]api.Instr{in(0x00)}, slices.Repeat([]api.Instr{in(0x20, 0)}, n)...)
			l = append(l, in(0x41), choose)
			hold(t, world(), typed(x, x), body(l...), number || n == 0)
			for _, y := range unlike(x[0]) {
				hold(t, world(), typed(x, y), body(l...), n == 0)
			}
		}
		// what was chosen out of two that may be whatever is whatever, and may be the lower one of two again
		hold(t, world(), typed(x, x), body(in(0x00), in(0x41), choose, in(0x20, 0), in(0x41), choose), number)
	}
	hold(t, world(), typed("", ""), body(in(0x00), in(0x42), choose), false)
	hold(t, world(), typed("", ""), body(in(0x41), in(0x41), begin(0x02, -1), in(0x41), choose, end, in(0x0f)), false)
	// that may be a reference, too
	hold(t, world(), typed("", i32), body(in(0x00), choose, in(0xd1)), true)
	hold(t, world(), typed("", i32), body(in(0x00), in(0x42), in(0x41), choose, in(0xd1)), false)
}

func TestSelectOfATypeThatIsNone(t *testing.T) {
	for _, x := range []uint32{0, 1, 0x40, 0x60, 0x6e, 0x71, 0x7b, 0x7c, 0x7d, 0x80, 0xff, 0x100, 0x17f, 0x170, 1<<31 + 0x7f, 1<<32 - 1} {
		hold(t, world(), typed(i32, i32), body(in(0x20, 0), in(0x20, 0), in(0x20, 0), in(0x1c, x)), false)
		hold(t, world(), typed("", ""), body(in(0x00), in(0x1c, x), in(0x1a)), false)
	}
}

func TestNullOfATypeThatIsNoReference(t *testing.T) {
	for _, x := range []uint32{0, api.I32, api.I64, 0x40, 0x6e, 0x71, 0x7d, 0xff, 0x100, 0x16f, 0x170, 1<<31 + 0x70, 1<<32 - 1} {
		hold(t, world(), typed("", ""), body(in(0xd0, x), in(0x1a)), false)
		hold(t, world(), typed("", ""), body(in(0x00), in(0xd0, x), in(0x1a)), false)
	}
}
