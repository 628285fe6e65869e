package val_test

import (
	"testing"

	"cloakroom/api"
	"cloakroom/op"
)

// farAway are numbers that name nothing in any module here.
func farAway() []uint32 { return []uint32{64, 1 << 16, 1<<31 - 1, 1 << 31, 1<<32 - 1} }

// fitsUpTo tells if not just the numbers below count may stand as A, or as B, of an instruction. It stands where nothing comes, and nothing behind it: its types cannot be at fault.
func fitsUpTo(t *testing.T, m api.Module, f api.FuncType, c api.Code, x api.Instr, count uint32, asB bool) {
	t.Helper()
	for _, n := range append(farAway(), 0, 1, 2, 3, 4, 5, 6, 7) {
		named := x
		if asB {
			named.B = n
		} else {
			named.A = n
		}
		c.Body = body(in(0x00), named, in(0x00)).Body
		hold(t, m, f, c, n < count)
	}
}

func TestWhatIsNamedMustBeThere(t *testing.T) {
	m := world()
	m.Exports = append(m.Exports, api.Export{Name: "g", Index: 0}, api.Export{Name: "h", Index: 3})
	// one type for all, so that nothing but the number is at fault
	for i := range m.Tables {
		m.Tables[i].Type = api.Func
	}
	for i := range m.Elems {
		m.Elems[i].Type = api.Func
	}
	for i := range m.Globals {
		m.Globals[i].Mut = true
	}
	f := typed(i32+i64+fun, i64)
	for _, x := range []struct {
		x     api.Instr
		count int
		asB   bool
	}{
		{in(0x10), len(m.Funcs), false},
		{in(0xd2), len(m.Funcs), false},
		{in(0x11), len(m.Types), false},
		{in(0x11), len(m.Tables), true},
		{in(0x20), 3, false},
		{in(0x21), 3, false},
		{in(0x22), 3, false},
		{in(0x23), len(m.Globals), false},
		{in(0x24), len(m.Globals), false},
		{in(0x25), len(m.Tables), false},
		{in(0x26), len(m.Tables), false},
		{in(0xfc0f), len(m.Tables), false},
		{in(0xfc10), len(m.Tables), false},
		{in(0xfc11), len(m.Tables), false},
		{in(0xfc0e), len(m.Tables), false},
		{in(0xfc0e), len(m.Tables), true},
		{in(0xfc0c), len(m.Elems), false},
		{in(0xfc0c), len(m.Tables), true},
		{in(0xfc0d), len(m.Elems), false},
		{in(0xfc08), 2, false},
		{in(0xfc09), 2, false},
		{in(0x0c), 1, false},
		{in(0x0d), 1, false},
		{in(0x0e), 1, false},
	} {
		fitsUpTo(t, m, f, api.Code{}, x.x, uint32(x.count), x.asB)
		fitsUpTo(t, api.Module{}, typed("", ""), api.Code{}, x.x, nothingThere(x.x.Op), x.asB)
	}
}

// nothingThere tells how many of what op names are there, where a module has nothing.
func nothingThere(op int) uint32 {
	if op == 0x0c || op == 0x0d || op == 0x0e {
		return 1
	}
	return 0
}

func TestLocalsAreParamsThenLocals(t *testing.T) {
	all := i32 + i64 + ext + fun + fun + i32
	for params := range len(all) + 1 {
		for n := range len(all) {
			for _, x := range []string{i32, i64, fun, ext} {
				f := typed(all[:params], x)
				c := body(in(0x20, uint32(n)))
				c.Locals = []byte(all[params:])
				hold(t, api.Module{}, f, c, x == all[n:n+1])
				c.Body = body(in(0x20, uint32(n)), in(0x22, uint32(n)), in(0x21, uint32(n)), in(0x20, uint32(n))).Body
				hold(t, api.Module{}, f, c, x == all[n:n+1])
			}
		}
		c := api.Code{Locals: []byte(all[params:])}
		for _, x := range []int{0x20, 0x21, 0x22} {
			fitsUpTo(t, api.Module{}, typed(all[:params], i64), c, in(x), uint32(len(all)), false)
		}
	}
}

func TestGlobalsAreSetIfTheyMayBe(t *testing.T) {
	for _, x := range []string{i32, i64, fun, ext} {
		for _, mut := range []bool{false, true} {
			m := api.Module{Globals: []api.Global{{Type: api.I32, Mut: !mut}, {Type: x[0], Mut: mut}}}
			holdOn(t, m, in(0x24, 1), x, "", mut)
			holdOn(t, m, in(0x23, 1), "", x, true)
			holdOn(t, m, in(0x24, 0), i32, "", !mut)
			for _, y := range unlike(x[0]) {
				holdOn(t, m, in(0x24, 1), y, "", false)
				holdOn(t, m, in(0x23, 1), "", y, false)
			}
		}
	}
}

func TestTablesAndElementsMustBeOfOneType(t *testing.T) {
	for _, a := range []string{fun, ext} {
		for _, b := range []string{fun, ext} {
			m := api.Module{
				Tables: []api.Table{{Type: a[0]}, {Type: b[0]}},
				Elems:  []api.Elem{{Mode: api.Passive, Type: a[0]}, {Mode: api.Declared, Type: b[0]}, {Mode: api.Active, Type: a[0]}},
			}
			holdOn(t, m, in(0xfc0e, 0, 1), i32+i32+i32, "", a == b)
			holdOn(t, m, in(0xfc0e, 1, 0), i32+i32+i32, "", a == b)
			holdOn(t, m, in(0xfc0e, 1, 1), i32+i32+i32, "", true)
			holdOn(t, m, in(0xfc0c, 0, 1), i32+i32+i32, "", a == b)
			holdOn(t, m, in(0xfc0c, 1, 0), i32+i32+i32, "", a == b)
			holdOn(t, m, in(0xfc0c, 0, 0), i32+i32+i32, "", true)
			holdOn(t, m, in(0xfc0c, 1, 1), i32+i32+i32, "", true)
			holdOn(t, m, in(0xfc0c, 2, 0), i32+i32+i32, "", true)
			holdOn(t, m, in(0xfc0c, 2, 1), i32+i32+i32, "", a == b)
		}
	}
}

func TestCallIndirectIsOfATableOfFunctions(t *testing.T) {
	m := world()
	for b, x := range m.Tables {
		holdOn(t, m, in(0x11, 0, uint32(b)), i32, "", x.Type == api.Func)
		holdOn(t, m, in(0x11, 1, uint32(b)), i32+i64+i32, i64+i32, x.Type == api.Func)
		hold(t, m, typed("", ""), body(in(0x00), in(0x11, 0, uint32(b))), x.Type == api.Func)
	}
}

func TestCallsOfAFunctionWhoseTypeIsNone(t *testing.T) {
	for _, n := range farAway() {
		m := api.Module{Types: []api.FuncType{typed("", "")}, Funcs: []uint32{0, n, 1}}
		hold(t, m, typed("", ""), body(in(0x10, 0)), true)
		hold(t, m, typed("", ""), body(in(0x10, 1)), false)
		hold(t, m, typed("", ""), body(in(0x00), in(0x10, 2)), false)
	}
}

// memoryInstructions are all that need a memory, and what they take.
func memoryInstructions() (l []straight) {
	for _, s := range straights() {
		switch x := s.x.Op; {
		case op.Width(x) > 0, x == 0x3f, x == 0x40, x == 0xfc08, x == 0xfc0a, x == 0xfc0b:
			l = append(l, s)
		}
	}
	return l
}

func TestMemoryInstructionsNeedAMemory(t *testing.T) {
	with, without := world(), world()
	without.Mems = nil
	for _, s := range memoryInstructions() {
		holdOn(t, with, s.x, s.takes, s.gives, true)
		holdOn(t, without, s.x, s.takes, s.gives, false)
		hold(t, without, typed("", ""), body(in(0x00), s.x, in(0x00)), false)
	}
	// that a data is dropped is not the memory's matter
	holdOn(t, without, in(0xfc09, 1), "", "", true)
}

func TestAlignmentIsAtMostTheWidth(t *testing.T) {
	greatest := map[int]uint32{
		0x28: 2, 0x29: 3, 0x2c: 0, 0x2d: 0, 0x2e: 1, 0x2f: 1, 0x30: 0, 0x31: 0, 0x32: 1, 0x33: 1, 0x34: 2, 0x35: 2,
		0x36: 2, 0x37: 3, 0x3a: 0, 0x3b: 1, 0x3c: 0, 0x3d: 1, 0x3e: 2,
	}
	for _, s := range memoryInstructions() {
		if op.Width(s.x.Op) == 0 {
			continue
		}
		for _, a := range []uint32{0, 1, 2, 3, 4, 5, 8, 30, 31, 32, 33, 62, 63, 64, 65, 255, 256, 257, 1 << 16, 1 << 31, 1<<32 - 1} {
			for _, offset := range []uint32{0, 1, 1<<32 - 1} {
				s.x.A, s.x.B = a, offset
				holdOn(t, world(), s.x, s.takes, s.gives, a <= greatest[s.x.Op])
			}
		}
	}
}

// TestDatasAreThoseThatAModuleTells: if it tells how many, there may be others.
func TestDatasAreThoseThatAModuleTells(t *testing.T) {
	for _, there := range []int{0, 1, 2, 3} {
		for _, count := range []uint32{0, 1, 2, 3, 1 << 31, 1<<32 - 1} {
			m := api.Module{Mems: make([]api.Limits, 1), Datas: make([]api.Data, there), Count: count}
			for _, n := range append(farAway(), 0, 1, 2, 3, 4) {
				m.Counts = true
				holdOn(t, m, in(0xfc09, n), "", "", n < count)
				holdOn(t, m, in(0xfc08, n), i32+i32+i32, "", n < count)
				m.Counts = false
				holdOn(t, m, in(0xfc09, n), "", "", int(n) < there)
				holdOn(t, m, in(0xfc08, n), i32+i32+i32, "", int(n) < there)
			}
		}
	}
}

// TestFunctionsAreDeclared: each way by which a function is named, and whether it is declared by it.
func TestFunctionsAreDeclared(t *testing.T) {
	named := []api.Instr{in(0xd2, 2), end}
	other := []api.Instr{in(0xd2, 1), end}
	for name, x := range map[string]struct {
		m        api.Module
		declared bool
	}{
		"nothing":                        {api.Module{}, false},
		"a global":                       {api.Module{Globals: []api.Global{{Type: api.Func, Init: named}}}, true},
		"the second of globals":          {api.Module{Globals: []api.Global{{Type: api.I32, Init: []api.Instr{in(0x41), end}}, {Type: api.Func, Init: named}}}, true},
		"a global of another":            {api.Module{Globals: []api.Global{{Type: api.Func, Init: other}}}, false},
		"a number of a global":           {api.Module{Globals: []api.Global{{Type: api.I32, Init: []api.Instr{{Op: 0x41, A: 2, N: 2}, end}}}}, false},
		"a call of a global":             {api.Module{Globals: []api.Global{{Init: []api.Instr{in(0x10, 2), end}}}}, false},
		"a passive elem":                 {api.Module{Elems: []api.Elem{{Mode: api.Passive, Type: api.Func, Init: [][]api.Instr{named}}}}, true},
		"an active elem":                 {api.Module{Elems: []api.Elem{{Mode: api.Active, Type: api.Func, Init: [][]api.Instr{named}}}}, true},
		"a declared elem":                {api.Module{Elems: []api.Elem{{Mode: api.Declared, Type: api.Func, Init: [][]api.Instr{named}}}}, true},
		"the third of an elem":           {api.Module{Elems: []api.Elem{{Init: [][]api.Instr{other, other, named}}}}, true},
		"the second elem":                {api.Module{Elems: []api.Elem{{Init: [][]api.Instr{other}}, {}, {Init: [][]api.Instr{named}}}}, true},
		"an elem of another":             {api.Module{Elems: []api.Elem{{Init: [][]api.Instr{other, other}}}}, false},
		"an elem's offset":               {api.Module{Elems: []api.Elem{{Offset: named}}}, false},
		"a data's offset":                {api.Module{Datas: []api.Data{{Offset: named}}}, false},
		"an export":                      {api.Module{Exports: []api.Export{{Name: "f", Index: 2}}}, true},
		"the second export":              {api.Module{Exports: []api.Export{{Name: "g", Index: 1}, {Name: "f", Index: 2}}}, true},
		"an export of another":           {api.Module{Exports: []api.Export{{Name: "f", Index: 1}}}, false},
		"an export of a table":           {api.Module{Exports: []api.Export{{Name: "f", Kind: 1, Index: 2}}}, false},
		"an export of a memory":          {api.Module{Exports: []api.Export{{Name: "f", Kind: 2, Index: 2}}}, false},
		"an export of a global":          {api.Module{Exports: []api.Export{{Name: "f", Kind: 3, Index: 2}}}, false},
		"the start":                      {api.Module{Starts: true, Start: 2}, false},
		"a body":                         {api.Module{Codes: []api.Code{{Body: named}, {Body: named}, {Body: named}}}, false},
		"what is not there, too":         {api.Module{Exports: []api.Export{{Name: "g", Index: 3}, {Name: "h", Index: 1<<32 - 1}, {Name: "f", Index: 2}}}, true},
		"a global, what is not there":    {api.Module{Globals: []api.Global{{Init: []api.Instr{in(0xd2, 1<<32-1), in(0xd2, 3), in(0xd2, 2), end}}}}, true},
		"a global and an elem of others": {api.Module{Globals: []api.Global{{Init: other}}, Elems: []api.Elem{{Init: [][]api.Instr{other}}}}, false},
	} {
		t.Run(name, func(t *testing.T) {
			x.m.Types, x.m.Funcs = []api.FuncType{typed("", "")}, []uint32{0, 0, 0}
			holdOn(t, x.m, in(0xd2, 2), "", fun, x.declared)
			hold(t, x.m, typed("", ""), body(in(0x00), in(0xd2, 2), in(0x1a)), x.declared)
			holdOn(t, x.m, in(0xd2, 0), "", fun, false)
			holdOn(t, x.m, in(0xd2, 3), "", fun, false)
			holdOn(t, x.m, in(0xd2, 1<<32-1), "", fun, false)
		})
	}
}

// TestAFunctionThatIsNamedMustBeThere: a name alone declares nothing.
func TestAFunctionThatIsNamedMustBeThere(t *testing.T) {
	m := world()
	for n := range uint32(6) {
		there := n < uint32(len(m.Funcs))
		m.Exports = []api.Export{{Name: "f", Index: n}}
		m.Globals[2].Init = []api.Instr{in(0xd2, n), end}
		m.Elems[0].Init = [][]api.Instr{{in(0xd2, n), end}}
		holdOn(t, m, in(0xd2, n), "", fun, there)
		holdOn(t, m, in(0xd2, n+1), "", fun, false)
	}
}
