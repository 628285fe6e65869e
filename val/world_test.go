package val_test

import (
	"testing"

	"cloakroom/api"
	"cloakroom/val"
)

// Types of values, as texts: what is taken, or given, is a text of them.
const (
	i32 = "\x7f"
	i64 = "\x7e"
	fun = "\x70"
	ext = "\x6f"
)

var end = api.Instr{Op: 0x0b}

// in is an instruction that stands by its Op and what it names.
func in(op int, names ...uint32) api.Instr {
	x := api.Instr{Op: op}
	if len(names) > 0 {
		x.A = names[0]
	}
	if len(names) > 1 {
		x.B = names[1]
	}
	return x
}

// begin is the first instruction of a block of type t.
func begin(op, t int) api.Instr { return api.Instr{Op: op, T: t} }

// table is a br_table to these labels, and else to last.
func table(last uint32, labels ...uint32) api.Instr {
	return api.Instr{Op: 0x0e, A: last, L: labels}
}

func typed(takes, gives string) api.FuncType {
	return api.FuncType{Params: []byte(takes), Results: []byte(gives)}
}

// world has something of each kind, and of each type that it may be of.
func world() api.Module {
	return api.Module{
		Types:  []api.FuncType{typed("", ""), typed(i32+i64, i64+i32), typed(fun, ext+fun), typed(i32, ""), typed(i32, i32), typed("", i64+i32)},
		Funcs:  []uint32{0, 1, 2, 5},
		Tables: []api.Table{{Type: api.Func}, {Type: api.Ext}, {Type: api.Func}, {Type: api.Ext}},
		Mems:   []api.Limits{{Min: 1}},
		Globals: []api.Global{
			{Type: api.I32, Mut: true, Init: []api.Instr{in(0x41), end}},
			{Type: api.I64, Init: []api.Instr{in(0x42), end}},
			{Type: api.Func, Mut: true, Init: []api.Instr{in(0xd2, 2), end}},
			{Type: api.Ext, Init: []api.Instr{in(0xd0, api.Ext), end}},
		},
		Exports: []api.Export{{Name: "f", Index: 1}},
		Elems:   []api.Elem{{Mode: api.Passive, Type: api.Func}, {Mode: api.Passive, Type: api.Ext}},
		Counts:  true,
		Count:   2,
		Datas:   []api.Data{{Mode: api.Passive}, {Mode: api.Passive}},
	}
}

// body is instructions and their end.
func body(l ...api.Instr) api.Code {
	return api.Code{Body: append(append([]api.Instr(nil), l...), end)}
}

// hold tells if Body does not answer whether c fits in a function of type f.
func hold(t *testing.T, m api.Module, f api.FuncType, c api.Code, fits bool) {
	t.Helper()
	want := api.ErrType
	if fits {
		want = api.OK
	}
	if e := val.Body(m, f, c); e != want {
		t.Errorf("Body of %x to %x, locals %x, of %v: error %d, want %d", f.Params, f.Results, c.Locals, c.Body[:min(len(c.Body), 20)], e, want)
	}
}

// gets pushes the params from that one on.
func gets(first, last int) (l []api.Instr) {
	for i := first; i < last; i++ {
		l = append(l, in(0x20, uint32(i)))
	}
	return l
}

// holdOn tells if x, handed values of these types, does not leave those of gives.
func holdOn(t *testing.T, m api.Module, x api.Instr, takes, gives string, fits bool) {
	t.Helper()
	hold(t, m, typed(takes, gives), body(append(gets(0, len(takes)), x)...), fits)
}
