package val_test

import (
	"testing"

	"cloakroom/api"
	"cloakroom/op"
	"cloakroom/val"
)

// holdConst tells if Const does not answer whether l is of type t.
func holdConst(t *testing.T, m api.Module, of byte, l []api.Instr, is bool) {
	t.Helper()
	want := api.ErrType
	if is {
		want = api.OK
	}
	if e := val.Const(m, of, l); e != want {
		t.Errorf("Const of %#x of %v: error %d, want %d", of, l, e, want)
	}
}

// holdType tells if Const of x and an end is not of type is, alone. None: "".
func holdType(t *testing.T, m api.Module, x api.Instr, is string) {
	t.Helper()
	for of := range 0x100 {
		holdConst(t, m, byte(of), []api.Instr{x, end}, is == string([]byte{byte(of)}))
	}
}

func TestConstOfEachInstruction(t *testing.T) {
	constant := map[int]string{0x41: i32, 0x42: i64, 0xd2: fun}
	for _, x := range op.Names() {
		if x != 0xd0 {
			holdType(t, world(), in(x), constant[x])
		}
	}
	for _, x := range []int{-1, 0x43, 0x44, 0xfd, 0x141, 0x1d2, 0xfc41, 0x10041, 1<<32 + 0x41, -1<<63 + 0x41} {
		holdType(t, world(), in(x), "")
	}
	for _, n := range []uint64{0, 1, 1<<31 - 1, 1 << 31, 1<<32 - 1} {
		holdType(t, api.Module{}, api.Instr{Op: 0x41, N: n}, i32)
		holdType(t, api.Module{}, api.Instr{Op: 0x42, N: n << 32}, i64)
	}
}

func TestConstOfNull(t *testing.T) {
	holdType(t, api.Module{}, in(0xd0, api.Func), fun)
	holdType(t, api.Module{}, in(0xd0, api.Ext), ext)
	for _, x := range []uint32{0, 1, api.I32, api.I64, 0x40, 0x6e, 0x71, 0x7d, 0xff, 0x100 + api.Func, 0x100 + api.Ext, 1<<31 + api.Func, 1<<32 - 1} {
		holdType(t, world(), in(0xd0, x), "")
	}
}

// TestConstOfFunctions: one that is there need not be declared, nor of a type that is there.
func TestConstOfFunctions(t *testing.T) {
	for there := range 5 {
		m := api.Module{Funcs: make([]uint32, there)}
		for _, n := range append(farAway(), 0, 1, 2, 3, 4, 5) {
			is := ""
			if int(n) < there {
				is = fun
			}
			holdType(t, m, in(0xd2, n), is)
		}
	}
}

func TestConstIsOneInstructionAndAnEnd(t *testing.T) {
	one := map[string]api.Instr{i32: in(0x41), i64: in(0x42), fun: in(0xd2, 0), ext: in(0xd0, api.Ext)}
	for of, x := range one {
		holdConst(t, world(), of[0], []api.Instr{x, end}, true)
		for name, l := range map[string][]api.Instr{
			"nothing":             nil,
			"an empty list":       {},
			"an end":              {end},
			"two ends":            {end, end},
			"no end":              {x},
			"two of them":         {x, x},
			"two and an end":      {x, x, end},
			"an end first":        {end, x},
			"one between ends":    {end, x, end},
			"two ends behind":     {x, end, end},
			"one behind":          {x, end, x},
			"a nop first":         {in(0x01), x, end},
			"a nop behind":        {x, in(0x01), end},
			"a nop for the end":   {x, in(0x01)},
			"an else for the end": {x, in(0x05)},
			"dropped, and again":  {x, in(0x1a), x, end},
			"in a block":          {begin(0x02, int(int8(of[0]|0x80))), x, end, end},
			"behind unreachable":  {in(0x00), x, end},
			"returned":            {x, in(0x0f), end},
			"of a global":         {in(0x23, 0), end},
			"of a sum":            {x, x, in(0x6a), end},
			"of a sum of 64 bits": {x, x, in(0x7c), end},
			"of null":             {x, in(0xd1), end},
		} {
			t.Run(name, func(t *testing.T) { holdConst(t, world(), of[0], l, false) })
		}
	}
}
