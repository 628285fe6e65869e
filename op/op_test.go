package op_test

import (
	"math"
	"slices"
	"testing"

	"cloakroom/api"
	"cloakroom/op"
	"cloakroom/probe"
)

// spans are Ops, each the first and the last of a row of them.
type spans [][2]int

func (s spans) has(x int) bool {
	for _, span := range s {
		if span[0] <= x && x <= span[1] {
			return true
		}
	}
	return false
}

func one(x int) [2]int { return [2]int{x, x} }

// kinds are the chapter's lists, as it has them.
func kinds() map[int]spans {
	return map[int]spans{
		api.ImmNone: {
			one(0x00), one(0x01), one(0x05), one(0x0b), one(0x0f), one(0x1a), one(0x1b),
			{0x45, 0x5a}, {0x67, 0x8a}, one(0xa7), one(0xac), one(0xad), {0xc0, 0xc4}, one(0xd1),
		},
		api.ImmOne: {
			one(0x0c), one(0x0d), one(0x10), {0x20, 0x24}, one(0x25), one(0x26), one(0xd2),
			one(0xfc09), one(0xfc0d), one(0xfc0f), one(0xfc10), one(0xfc11),
			one(0x3f), one(0x40), one(0xfc0b),
		},
		api.ImmTwo:   {one(0x11), one(0xfc0c), one(0xfc0e), one(0xfc08), one(0xfc0a)},
		api.ImmNum32: {one(0x41)},
		api.ImmNum64: {one(0x42)},
		api.ImmMem:   {one(0x28), one(0x29), {0x2c, 0x37}, {0x3a, 0x3e}},
		api.ImmBlock: {one(0x02), one(0x03), one(0x04)},
		api.ImmTable: {one(0x0e)},
		api.ImmType:  {one(0x1c), one(0xd0)},
	}
}

func floatsAndVectors() spans {
	return spans{
		one(0x2a), one(0x2b), one(0x38), one(0x39), one(0x43), one(0x44), {0x5b, 0x66}, {0x8b, 0xa6},
		{0xa8, 0xab}, {0xae, 0xbf}, {0xfc00, 0xfc07}, one(0xfd), {0xfd00, 0xfdff},
	}
}

// expect works out by the chapter's lists what Kind answers.
func expect(x int) (imm int, e api.Errno) {
	for imm, s := range kinds() {
		if s.has(x) {
			return imm, api.OK
		}
	}
	if floatsAndVectors().has(x) {
		return 0, api.ErrProfile
	}
	return 0, api.ErrForm
}

// holdKind holds Kind of x against an answer.
func holdKind(t *testing.T, x, want int, wantE api.Errno) {
	t.Helper()
	if imm, e := op.Kind(x); imm != want || e != wantE {
		t.Errorf("Kind(%#x): %d, error %d, want %d, error %d", x, imm, e, want, wantE)
	}
}

// beyond are Ops that share their lower bits with others, or lie at an end of all numbers.
func beyond() []int {
	list := []int{math.MinInt, math.MinInt + 1, math.MinInt32, math.MaxInt32, math.MaxUint32, math.MaxInt - 1, math.MaxInt}
	for low := range 0x100 {
		for _, high := range []int{-0x10000, -0x100, 0x100, 0xff00, 0x10000, 0x1fc00, 0x1fd00, 0xfc0000, 0xfd0000, 1 << 32, 1<<32 + 0xfc00, math.MinInt} {
			list = append(list, high+low)
		}
	}
	return list
}

func TestKindOfEachNumber(t *testing.T) {
	for x := -0x200; x < 0x10200; x++ {
		want, e := expect(x)
		holdKind(t, x, want, e)
	}
}

func TestKindOfSomeByTheirNames(t *testing.T) {
	for _, c := range []struct {
		name    string
		op, imm int
	}{
		{"unreachable", 0x00, api.ImmNone},
		{"block", 0x02, api.ImmBlock},
		{"else", 0x05, api.ImmNone},
		{"end", 0x0b, api.ImmNone},
		{"br", 0x0c, api.ImmOne},
		{"br_table", 0x0e, api.ImmTable},
		{"return", 0x0f, api.ImmNone},
		{"call", 0x10, api.ImmOne},
		{"call_indirect", 0x11, api.ImmTwo},
		{"select", 0x1b, api.ImmNone},
		{"select of a type", 0x1c, api.ImmType},
		{"local.get", 0x20, api.ImmOne},
		{"table.set", 0x26, api.ImmOne},
		{"i32.load", 0x28, api.ImmMem},
		{"i64.store32", 0x3e, api.ImmMem},
		{"memory.size", 0x3f, api.ImmOne},
		{"memory.grow", 0x40, api.ImmOne},
		{"i32.const", 0x41, api.ImmNum32},
		{"i64.const", 0x42, api.ImmNum64},
		{"i32.add", 0x6a, api.ImmNone},
		{"i32.wrap_i64", 0xa7, api.ImmNone},
		{"i64.extend32_s", 0xc4, api.ImmNone},
		{"ref.null", 0xd0, api.ImmType},
		{"ref.is_null", 0xd1, api.ImmNone},
		{"ref.func", 0xd2, api.ImmOne},
		{"memory.init", 0xfc08, api.ImmTwo},
		{"memory.copy", 0xfc0a, api.ImmTwo},
		{"memory.fill", 0xfc0b, api.ImmOne},
		{"table.fill", 0xfc11, api.ImmOne},
	} {
		if imm, e := op.Kind(c.op); imm != c.imm || e != api.OK {
			t.Errorf("%s: %d, error %d, want %d", c.name, imm, e, c.imm)
		}
	}
}

func TestKindRefusesFloatsAndVectors(t *testing.T) {
	for _, s := range floatsAndVectors() {
		for x := s[0]; x <= s[1]; x++ {
			holdKind(t, x, 0, api.ErrProfile)
		}
	}
}

func TestKindTellsWhatIsNoInstruction(t *testing.T) {
	for _, x := range []int{-1, 0x06, 0x0a, 0x12, 0x19, 0x1d, 0x1f, 0x27, 0xc5, 0xcf, 0xd3, 0xfb, 0xfc, 0xfe, 0xff, 0x100, 0xfbff, 0xfc12, 0xfcff, 0xfe00, 0xffff} {
		holdKind(t, x, 0, api.ErrForm)
	}
	for _, x := range beyond() {
		holdKind(t, x, 0, api.ErrForm)
	}
}

// TestEachInstructionIsOfOneKind holds the lists against each other too: a test that asks one of two would see nothing.
func TestEachInstructionIsOfOneKind(t *testing.T) {
	for _, x := range op.Names() {
		lists := 0
		for _, s := range kinds() {
			if s.has(x) {
				lists++
			}
		}
		if lists != 1 || floatsAndVectors().has(x) {
			t.Errorf("%#x is on %d lists", x, lists)
		}
	}
}

func TestWidthOfEachNumber(t *testing.T) {
	widths := map[int]int{
		0x28: 4, 0x29: 8, 0x2c: 1, 0x2d: 1, 0x2e: 2, 0x2f: 2, 0x30: 1, 0x31: 1, 0x32: 2, 0x33: 2, 0x34: 4, 0x35: 4,
		0x36: 4, 0x37: 8, 0x3a: 1, 0x3b: 2, 0x3c: 1, 0x3d: 2, 0x3e: 4,
	}
	hold := func(x int) {
		if got := op.Width(x); got != widths[x] {
			t.Errorf("Width(%#x): %d, want %d", x, got, widths[x])
		}
	}
	for x := -0x200; x < 0x10200; x++ {
		hold(x)
	}
	for _, x := range beyond() {
		hold(x)
	}
}

// TestLoadsAndStoresAreTheMemKind: what has a width is what an alignment stands behind.
func TestLoadsAndStoresAreTheMemKind(t *testing.T) {
	for _, x := range op.Names() {
		imm, _ := op.Kind(x)
		if width := op.Width(x); (width > 0) != (imm == api.ImmMem) {
			t.Errorf("%#x: width %d, kind %d", x, width, imm)
		}
	}
}

func TestNamesAreTheProfileRising(t *testing.T) {
	var want []int
	for x := range 0x10200 {
		if _, e := expect(x); e == api.OK {
			want = append(want, x)
		}
	}
	if len(want) != 125 {
		t.Fatalf("the chapter names 125 instructions, the lists %d", len(want))
	}
	if got := op.Names(); !slices.Equal(got, want) {
		t.Errorf("Names: %#x, want %#x", got, want)
	}
}

func TestNamesAreNewMemory(t *testing.T) {
	first := op.Names()
	want := slices.Clone(first)
	second := op.Names()
	probe.Scribble(first)
	if !slices.Equal(second, want) || !slices.Equal(op.Names(), want) {
		t.Error("two answers share memory")
	}
}
