package asm_test

import (
	"bytes"
	"fmt"
	"testing"

	"cloakroom/api"
	"cloakroom/asm"
	"cloakroom/probe"
)

// roomy is list with spare room, in which parts of its own kind stand.
func roomy[T any](list []T) []T {
	whole := append(append([]T{}, list...), list...)
	return whole[:len(list)]
}

// full is a module of all parts, its lists with spare room; seen writes all that it reaches, spare room too.
func full() (m api.Module, seen func() string) {
	for place := range sections {
		behindSection(&m, place, 0, 9)
	}
	m.Types, m.Funcs, m.Tables, m.Mems = roomy(m.Types), roomy(m.Funcs), roomy(m.Tables), roomy(m.Mems)
	m.Globals, m.Exports, m.Elems = roomy(m.Globals), roomy(m.Exports), roomy(m.Elems)
	m.Codes, m.Datas = roomy(m.Codes), roomy(m.Datas)
	for i := range m.Codes {
		m.Codes[i].Body, m.Codes[i].Locals = roomy(m.Codes[i].Body), roomy(m.Codes[i].Locals)
	}
	for i := range m.Elems {
		m.Elems[i].Init, m.Elems[i].Offset = roomy(m.Elems[i].Init), roomy(m.Elems[i].Offset)
	}
	for i := range m.Datas {
		m.Datas[i].Bytes, m.Datas[i].Offset = roomy(m.Datas[i].Bytes), roomy(m.Datas[i].Offset)
	}
	return m, func() string { return fmt.Sprintf("%+v", wide(m)) }
}

// wide is m with its lists' spare room as parts of them.
func wide(m api.Module) api.Module {
	m.Types, m.Funcs, m.Tables, m.Mems = all(m.Types), all(m.Funcs), all(m.Tables), all(m.Mems)
	m.Globals, m.Exports, m.Elems = all(m.Globals), all(m.Exports), all(m.Elems)
	m.Codes, m.Datas = all(m.Codes), all(m.Datas)
	for i, x := range m.Codes {
		m.Codes[i].Body, m.Codes[i].Locals = all(x.Body), all(x.Locals)
	}
	for i, x := range m.Elems {
		m.Elems[i].Init, m.Elems[i].Offset = all(x.Init), all(x.Offset)
	}
	for i, x := range m.Datas {
		m.Datas[i].Bytes, m.Datas[i].Offset = all(x.Bytes), all(x.Offset)
	}
	return m
}

func all[T any](list []T) []T {
	return append([]T{}, list[:cap(list)]...)
}

func TestPutChangesNothing(t *testing.T) {
	m, seen := full()
	before := seen()
	asm.Put(m)
	asm.Shortest(m)
	if seen() != before {
		t.Error("the module, or its spare room, was changed")
	}
	values, unchanged := probe.Handed([]byte{0x7f, 0x7e})
	names, unchangedNames := probe.Handed([]uint32{0, 1})
	body := []api.Instr{{Op: 0x0e, L: names}, end}
	asm.Put(api.Module{Types: []api.FuncType{{Params: values, Results: values}}, Funcs: names, Codes: []api.Code{{Locals: values, Body: body}}, Datas: []api.Data{{Mode: 1, Bytes: values}}})
	if !unchanged() || !unchangedNames() {
		t.Error("lists, or their spare room, were changed")
	}
}

func TestPutAnswersNewMemory(t *testing.T) {
	m, seen := full()
	before, first := seen(), asm.Put(m)
	want, second := bytes.Clone(first), asm.Put(m)
	probe.Scribble(first)
	if !bytes.Equal(second, want) {
		t.Error("two answers share memory")
	}
	if seen() != before || !bytes.Equal(asm.Put(m), want) {
		t.Error("an answer and the module share memory, or the program keeps what it answered")
	}
	probe.Scribble(asm.Put(api.Module{}))
	if got := asm.Put(api.Module{}); string(got) != front {
		t.Errorf("the empty module, once its bytes were changed: %x", got)
	}
}

// Beyond the limits nothing is promised but that a call ends, and does not panic.
func TestPutEndsWhateverItIsHanded(t *testing.T) {
	strange := []api.Instr{{Op: 0x43}, {Op: -1}, {Op: 1 << 40}, {Op: 0xfd}, {Op: 2, T: 1 << 40}, {Op: 0x1c, A: 1 << 20}, {Op: 0x41, N: 1<<64 - 1}}
	for kind := range 256 {
		b := byte(kind)
		m := api.Module{
			Types: []api.FuncType{{Params: []byte{b}}}, Tables: []api.Table{{Type: b}}, Globals: []api.Global{{Type: b}, {Type: b, Init: strange}},
			Exports: []api.Export{{Name: string([]byte{b}), Kind: b}}, Elems: []api.Elem{{Mode: b, Type: b}, {Mode: b, Offset: strange, Init: [][]api.Instr{nil, strange}}},
			Codes: []api.Code{{}, {Locals: []byte{b}, Body: strange}}, Datas: []api.Data{{Mode: b}, {Mode: b, Offset: strange, Bytes: []byte{b}}},
		}
		if got := asm.Put(m); string(got[:8]) != front || !bytes.Equal(got, asm.Put(m)) || !asm.Shortest(m) {
			t.Errorf("byte %x: %x", b, got)
		}
	}
}
