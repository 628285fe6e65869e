package asm_test

import (
	"fmt"
	"slices"
	"strings"
	"testing"

	"cloakroom/api"
	"cloakroom/asm"
	"cloakroom/code"
	"cloakroom/mod"
	"cloakroom/op"
)

// check tells if m's bytes are not front and these.
func check(t *testing.T, name string, m api.Module, want string) {
	t.Helper()
	if got := string(asm.Put(m)); got != front+want {
		t.Fatalf("%s: Put %.999x, want %.999x", name, got, front+want)
	}
	if got := asm.Shortest(m); got != (len(front+want) <= 4096) {
		t.Errorf("%s: Shortest %v of %d bytes", name, got, len(front+want))
	}
}

func TestPutOfTheEmptyModule(t *testing.T) {
	check(t, "zero value", api.Module{}, "")
	check(t, "empty lists", api.Module{
		Types: []api.FuncType{}, Funcs: []uint32{}, Tables: []api.Table{}, Mems: []api.Limits{}, Globals: []api.Global{}, Exports: []api.Export{},
		Elems: []api.Elem{}, Codes: []api.Code{}, Datas: []api.Data{},
	}, "")
	check(t, "numbers that are not there", api.Module{Start: 5, Count: 6}, "")
}

// Each part alone, each two neighbours, and all of them.
func TestPutWritesEachPart(t *testing.T) {
	for place := range sections {
		for first := range 10 {
			for n := 1; n <= 10; n++ {
				var m api.Module
				want := behindSection(&m, place, first, n)
				check(t, fmt.Sprintf("section at %d, parts from %d, %d of them", place, first, n), m, want)
			}
		}
	}
}

// Each choice of sections.
func TestPutKeepsTheOrder(t *testing.T) {
	for chosen := range 1 << sections {
		var m api.Module
		want := ""
		for place := range sections {
			if chosen>>place&1 == 1 {
				want += behindSection(&m, place, chosen+place, 1+(chosen+3*place)%3)
			}
		}
		check(t, fmt.Sprintf("sections %b", chosen), m, want)
	}
}

func TestPutOfStartsAndCounts(t *testing.T) {
	for _, x := range numbers() {
		check(t, "start", api.Module{Starts: true, Start: x.x}, "\x08"+sized(x.bytes))
		check(t, "count", api.Module{Counts: true, Count: x.x}, "\x0c"+sized(x.bytes))
		check(t, "both", api.Module{Starts: true, Start: 1, Counts: true, Count: x.x}, "\x08\x01\x01\x0c"+sized(x.bytes))
	}
	check(t, "a count, and no datas", api.Module{Counts: true}, "\x0c\x01\x00")
	check(t, "a count that is not theirs", api.Module{Counts: true, Count: 7, Datas: []api.Data{{Mode: 1}}}, "\x0c\x01\x07\x0b\x03\x01\x01\x00")
	check(t, "datas, and no count", api.Module{Count: 1, Datas: []api.Data{{Mode: 1}}}, "\x0b\x03\x01\x01\x00")
}

// All numbers that parts name, at the edges of their bytes.
func TestPutWritesNumbersAsShortAsTheyCanBe(t *testing.T) {
	for _, x := range numbers() {
		v, s := x.x, x.bytes
		check(t, "func", api.Module{Funcs: []uint32{v, v}}, "\x03"+sized("\x02"+s+s))
		check(t, "table", api.Module{Tables: []api.Table{{Type: 0x70, Limits: api.Limits{Min: v, Max: v, Has: true}}}}, "\x04"+sized("\x01\x70\x01"+s+s))
		check(t, "mem", api.Module{Mems: []api.Limits{{Min: v}}}, "\x05"+sized("\x01\x00"+s))
		check(t, "export", api.Module{Exports: []api.Export{{Index: v}}}, "\x07"+sized("\x01\x00\x00"+s))
		check(t, "global", api.Module{Globals: []api.Global{{Type: 0x70, Init: ref(v)}}}, "\x06"+sized("\x01\x70\x00\xd2"+s+"\x0b"))
		check(t, "value", api.Module{Elems: []api.Elem{{Mode: 1, Type: 0x70, Init: [][]api.Instr{ref(v)}}}}, "\x09"+sized("\x01\x05\x70\x01\xd2"+s+"\x0b"))
		if v > 0 {
			check(t, "elem", api.Module{Elems: []api.Elem{{Type: 0x70, Table: v, Offset: only()}}}, "\x09"+sized("\x01\x06"+s+"\x0b\x70\x00"))
		}
	}
}

// How many, and how long, at the edges of their numbers' bytes.
func TestPutWritesLengthsAsShortAsTheyCanBe(t *testing.T) {
	for _, n := range []int{1, 2, 126, 127, 128, 129, 16382, 16383, 16384, 16385, 1 << 18} {
		many := func(s string) string { return sized(leb(n) + strings.Repeat(s, n)) }
		check(t, "types", api.Module{Types: make([]api.FuncType, n)}, "\x01"+many("\x60\x00\x00"))
		check(t, "funcs", api.Module{Funcs: make([]uint32, n)}, "\x03"+many("\x00"))
		check(t, "tables", api.Module{Tables: slices.Repeat([]api.Table{{Type: 0x70}}, n)}, "\x04"+many("\x70\x00\x00"))
		check(t, "mems", api.Module{Mems: make([]api.Limits, n)}, "\x05"+many("\x00\x00"))
		check(t, "globals", api.Module{Globals: slices.Repeat([]api.Global{{Type: 0x7f, Init: only()}}, n)}, "\x06"+many("\x7f\x00\x0b"))
		check(t, "exports", api.Module{Exports: make([]api.Export, n)}, "\x07"+many("\x00\x00\x00"))
		check(t, "elems", api.Module{Elems: slices.Repeat([]api.Elem{{Mode: 1, Type: 0x6f}}, n)}, "\x09"+many("\x05\x6f\x00"))
		check(t, "codes", api.Module{Codes: slices.Repeat([]api.Code{{Body: only()}}, n)}, "\x0a"+many("\x02\x00\x0b"))
		check(t, "datas", api.Module{Datas: slices.Repeat([]api.Data{{Mode: 1}}, n)}, "\x0b"+many("\x01\x00"))
		inOne(t, n)
	}
}

// inOne hands parts that have n of something.
func inOne(t *testing.T, n int) {
	t.Helper()
	values, text := slices.Repeat([]byte{0x7f}, n), strings.Repeat("a", n)
	check(t, "params", api.Module{Types: []api.FuncType{{Params: values}}}, "\x01"+sized("\x01\x60"+sized(string(values))+"\x00"))
	check(t, "results", api.Module{Types: []api.FuncType{{Results: values}}}, "\x01"+sized("\x01\x60\x00"+sized(string(values))))
	check(t, "name", api.Module{Exports: []api.Export{{Name: text}}}, "\x07"+sized("\x01"+sized(text)+"\x00\x00"))
	check(t, "values", api.Module{Elems: []api.Elem{{Mode: 2, Type: 0x70, Init: slices.Repeat([][]api.Instr{only()}, n)}}}, "\x09"+sized("\x01\x07\x70"+leb(n)+strings.Repeat("\x0b", n)))
	check(t, "bytes", api.Module{Datas: []api.Data{{Mode: 1, Bytes: []byte(text)}}}, "\x0b"+sized("\x01\x01"+sized(text)))
	check(t, "bytes of an active one", api.Module{Datas: []api.Data{{Offset: only(), Bytes: []byte(text)}}}, "\x0b"+sized("\x01\x00\x0b"+sized(text)))
	check(t, "locals", api.Module{Codes: []api.Code{{Locals: values, Body: only()}}}, "\x0a"+sized("\x01"+sized(leb(n)+strings.Repeat("\x01\x7f", n)+"\x0b")))
	body := append(slices.Repeat([]api.Instr{{Op: 1}}, n), end)
	check(t, "body", api.Module{Codes: []api.Code{{Body: body}}}, "\x0a"+sized("\x01"+sized("\x00"+strings.Repeat("\x01", n)+"\x0b")))
	check(t, "init", api.Module{Globals: []api.Global{{Type: 0x7f, Init: body}}}, "\x06"+sized("\x01\x7f\x00"+strings.Repeat("\x01", n)+"\x0b"))
}

// Of all modes, tables and types just one is active, of table 0, and of functions.
func TestPutChoosesTheElementsNumber(t *testing.T) {
	for _, table := range []uint32{0, 1, 2, 1<<32 - 1} {
		for _, kind := range []byte{0x70, 0x6f} {
			x := api.Elem{Type: kind, Table: table, Offset: i32(3), Init: [][]api.Instr{null(uint32(kind))}}
			values := "\x01\xd0" + string([]byte{kind}) + "\x0b"
			want := "\x06" + leb(int(table)) + "\x41\x03\x0b" + string([]byte{kind}) + values
			if table == 0 && kind == 0x70 {
				want = "\x04\x41\x03\x0b" + values
			}
			check(t, "active", api.Module{Elems: []api.Elem{x}}, "\x09"+sized("\x01"+want))
			// what only an active one has is not put
			x.Mode = 1
			check(t, "passive", api.Module{Elems: []api.Elem{x}}, "\x09"+sized("\x01\x05"+string([]byte{kind})+values))
			x.Mode = 2
			check(t, "declared", api.Module{Elems: []api.Elem{x}}, "\x09"+sized("\x01\x07"+string([]byte{kind})+values))
		}
	}
	passive := api.Data{Mode: 1, Offset: i32(3), Bytes: []byte("a")}
	check(t, "passive data", api.Module{Datas: []api.Data{passive}}, "\x0b\x04\x01\x01\x01a")
}

// Every instruction of the profile, as a body's and as an expression's.
func TestPutWritesAllInstructions(t *testing.T) {
	for _, o := range op.Names() {
		x := api.Instr{Op: o, A: 1, N: 5, L: []uint32{2}, T: -64}
		body := []api.Instr{x, end}
		s := string(code.Put(nil, body...))
		check(t, fmt.Sprintf("instruction %x", o), api.Module{Globals: []api.Global{{Type: 0x7f, Init: body}}, Codes: []api.Code{{Body: body}}},
			"\x06"+sized("\x01\x7f\x00"+s)+"\x0a"+sized("\x01"+sized("\x00"+s)))
	}
}

// takeable is a module that mod.Take takes, of parts chosen by these two, with just as many codes as functions.
func takeable(chosen, first int) (m api.Module) {
	for place := range sections {
		if chosen>>place&1 == 1 {
			behindSection(&m, place, first+place, 1+(first+place)%4)
		}
	}
	if len(m.Codes) > 0 || len(m.Funcs) > 0 {
		behindSection(&m, 1, first, 3)
		behindSection(&m, 9, first, 3)
	}
	m.Count = 0
	if m.Counts {
		m.Count = uint32(len(m.Datas))
	}
	return m
}

func TestTakeOfPutIsTheModule(t *testing.T) {
	for chosen := range 1 << sections {
		for first := range 5 {
			m := takeable(chosen, first)
			// A section 12 stands there wherever a code names datas; none of these does.
			back, e := mod.Take(asm.Put(m))
			if e != api.OK || !mod.Same(back, m) {
				t.Fatalf("sections %b from %d: error %d, %+v of %+v", chosen, first, e, back, m)
			}
		}
	}
}

// Modules that are as great as may be in each list.
func TestTakeOfPutAtTheLimits(t *testing.T) {
	for name, m := range map[string]api.Module{
		"types":   {Types: make([]api.FuncType, 32)},
		"arity":   {Types: []api.FuncType{{Params: slices.Repeat([]byte{0x7f}, 8), Results: slices.Repeat([]byte{0x6f}, 8)}}},
		"codes":   {Funcs: make([]uint32, 32), Codes: slices.Repeat([]api.Code{{Locals: []byte{0x7f}, Body: only()}}, 32)},
		"locals":  {Funcs: []uint32{0}, Codes: []api.Code{{Locals: slices.Repeat([]byte{0x7f, 0x7e}, 32), Body: only()}}},
		"body":    {Funcs: []uint32{0}, Codes: []api.Code{{Body: append(slices.Repeat([]api.Instr{{Op: 1}}, 599), end)}}},
		"tables":  {Tables: slices.Repeat([]api.Table{{Type: 0x6f}}, 4)},
		"mems":    {Mems: make([]api.Limits, 4)},
		"globals": {Globals: slices.Repeat([]api.Global{{Type: 0x7f, Mut: true, Init: only()}}, 16)},
		"exports": {Exports: slices.Repeat([]api.Export{{Name: strings.Repeat("x", 32), Kind: 3, Index: 1<<32 - 1}}, 32)},
		"elems":   {Elems: slices.Repeat([]api.Elem{{Type: 0x70, Offset: only()}, {Mode: 2, Type: 0x6f}}, 8)},
		"values":  {Elems: []api.Elem{{Type: 0x6f, Offset: only(), Init: slices.Repeat([][]api.Instr{null(0x6f)}, 64)}}},
		"datas":   {Counts: true, Count: 16, Datas: slices.Repeat([]api.Data{{Offset: only()}, {Mode: 1, Bytes: []byte("b")}}, 8)},
		"use of datas": {Funcs: []uint32{0}, Counts: true, Count: 1, Datas: []api.Data{{Mode: 1}},
			Codes: []api.Code{{Body: []api.Instr{{Op: 0xfc08}, {Op: 0xfc09}, end}}}},
		"4096 bytes": {Datas: []api.Data{{Mode: 1, Bytes: make([]byte, 4081)}}},
	} {
		back, e := mod.Take(asm.Put(m))
		if e != api.OK || !mod.Same(back, m) || !asm.Shortest(m) {
			t.Errorf("%s: error %d, %v, %+v", name, e, asm.Shortest(m), back)
		}
	}
}

// Up to the byte, by each part that may have any length.
func TestShortestAsksForNoMoreThanMaxModule(t *testing.T) {
	for _, x := range []struct {
		name string
		of   func(n int) api.Module
	}{
		{"funcs", func(n int) api.Module { return api.Module{Funcs: make([]uint32, n)} }},
		{"names", func(n int) api.Module {
			return api.Module{Exports: []api.Export{{Name: strings.Repeat("n", n)}}, Starts: true, Start: 128}
		}},
		{"body", func(n int) api.Module {
			return api.Module{Codes: []api.Code{{Body: append(slices.Repeat([]api.Instr{{Op: 1}}, n), end)}}, Counts: true}
		}},
		{"offset", func(n int) api.Module {
			return api.Module{Elems: []api.Elem{{Type: 0x6f, Offset: append(slices.Repeat([]api.Instr{{Op: 1}}, n), end)}}}
		}},
		{"bytes", func(n int) api.Module { return api.Module{Datas: []api.Data{{Offset: only(), Bytes: make([]byte, n)}}} }},
	} {
		for n := 4000; n < 4200; n++ {
			m := x.of(n)
			size := len(asm.Put(m))
			if asm.Shortest(m) != (size <= 4096) {
				t.Errorf("%s: %v of %d bytes", x.name, asm.Shortest(m), size)
			}
			_, e := mod.Take(asm.Put(m))
			if (e == api.ErrLong) != (size > 4096) && x.name == "bytes" {
				t.Errorf("%s: Take: error %d of %d bytes", x.name, e, size)
			}
		}
	}
	for n, want := range map[int]bool{4081: true, 4082: false} {
		m := api.Module{Datas: []api.Data{{Mode: 1, Bytes: make([]byte, n)}}}
		if got := asm.Shortest(m); got != want || len(asm.Put(m)) != n+15 {
			t.Errorf("%d bytes of data: %v, %d bytes", n, got, len(asm.Put(m)))
		}
	}
}
