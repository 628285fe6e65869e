package mod_test

import (
	"reflect"
	"slices"
	"strings"
	"testing"

	"cloakroom/api"
	"cloakroom/mod"
	"cloakroom/probe"
	"cloakroom/sect"
)

const (
	most    = "\xff\xff\xff\xff\x0f" // 2^32 - 1, of leb
	over32  = "\xff\xff\xff\xff\x1f" // one bit more
	endless = "\x80\x80\x80\x80\x80" // more bytes than a number of 32 bits has
)

var end = api.Instr{Op: 0x0b}

func i32(n uint64) []api.Instr  { return []api.Instr{{Op: 0x41, N: n}, end} }
func ref(f uint32) []api.Instr  { return []api.Instr{{Op: 0xd2, A: f}, end} }
func null(t uint32) []api.Instr { return []api.Instr{{Op: 0xd0, A: t}, end} }
func only() []api.Instr         { return []api.Instr{end} }

// sec is a section, its body as a text.
type sec struct {
	id   byte
	body string
}

func of(id byte, body string) sec { return sec{id, body} }

func join(l ...sec) string {
	var list []sect.Section
	for _, x := range l {
		list = append(list, sect.Section{ID: x.id, Body: []byte(x.body)})
	}
	return string(sect.Join(list...))
}

// written are the sections of a module by the chapter's words.
type written struct {
	l []sec
	m api.Module
}

// count is how many, as one byte.
func count(n int) string { return string([]byte{byte(n)}) }

// sized is bytes behind how many they are.
func sized(s string) string { return join(of(0, s))[len(join())+1:] }

// codes is a section of codes.
func codes(l ...string) sec {
	body := count(len(l))
	for _, x := range l {
		body += sized(x)
	}
	return of(10, body)
}

// functions is the section that as many codes ask for.
func functions(n int) sec { return of(3, count(n)+strings.Repeat("\x00", n)) }

// withCodes is a module of these codes alone.
func withCodes(l ...string) []sec { return []sec{functions(len(l)), codes(l...)} }

// whole are modules: each section is in some of them, with each thing that may be in it.
func whole() (list []written) {
	list = append(list, written{}, written{l: []sec{of(0, "\x00")}}, written{l: []sec{of(0, "\x01n\xff\xff"), of(0, "\x01n")}})
	list = append(list, written{l: []sec{of(1, "\x00"), of(2, "\x00"), of(3, "\x00"), of(4, "\x00"), of(5, "\x00"), of(6, "\x00"), of(7, "\x00"), of(9, "\x00"), of(10, "\x00"), of(11, "\x00")}})
	list = append(list, declarations()...)
	list = append(list, segments()...)
	list = append(list, bodies()...)
	return append(list, all())
}

func declarations() []written {
	return []written{
		{[]sec{of(1, "\x01\x60\x00\x00")}, api.Module{Types: []api.FuncType{{}}}},
		{[]sec{of(1, "\x03\x60\x02\x7f\x70\x01\x7e\x60\x00\x00\x60\x01\x6f\x02\x7f\x7e")}, api.Module{Types: []api.FuncType{
			{Params: []byte("\x7f\x70"), Results: []byte("\x7e")}, {}, {Params: []byte("\x6f"), Results: []byte("\x7f\x7e")},
		}}},
		{[]sec{of(4, "\x03\x70\x00\x01\x6f\x01\x02\x01\x70\x01"+most+most)}, api.Module{Tables: []api.Table{
			{Type: 0x70, Limits: api.Limits{Min: 1}}, {Type: 0x6f, Limits: api.Limits{Min: 2, Max: 1, Has: true}}, {Type: 0x70, Limits: api.Limits{Min: 1<<32 - 1, Max: 1<<32 - 1, Has: true}},
		}}},
		{[]sec{of(5, "\x01\x00\x01")}, api.Module{Mems: []api.Limits{{Min: 1}}}},
		{[]sec{of(5, "\x02\x01\x00\x05\x00"+most)}, api.Module{Mems: []api.Limits{{Max: 5, Has: true}, {Min: 1<<32 - 1}}}},
		{[]sec{of(6, "\x04\x7f\x00\x41\x7f\x0b\x7e\x01\x42\x7f\x0b\x70\x00\xd2\x05\x0b\x6f\x01\xd0\x6f\x0b")}, api.Module{Globals: []api.Global{
			{Type: 0x7f, Init: i32(1<<32 - 1)}, {Type: 0x7e, Mut: true, Init: []api.Instr{{Op: 0x42, N: 1<<64 - 1}, end}}, {Type: 0x70, Init: ref(5)}, {Type: 0x6f, Mut: true, Init: null(0x6f)},
		}}},
		// an expression is any body, with blocks of its own too
		{[]sec{of(6, "\x02\x7f\x00\x0b\x7f\x01\x02\x40\x01\x0b\xfc\x09\x03\x0b")}, api.Module{Globals: []api.Global{
			{Type: 0x7f, Init: only()}, {Type: 0x7f, Mut: true, Init: []api.Instr{{Op: 2, T: -64}, {Op: 1}, end, {Op: 0xfc09, A: 3}, end}},
		}}},
		{[]sec{of(7, "\x05\x00\x00\x00\x01f\x01\x07\x02\xc3\xa4\x02\x80\x01\x01f\x03"+most+"\x20"+strings.Repeat("n", 32)+"\x00\x01")}, api.Module{Exports: []api.Export{
			{}, {Name: "f", Kind: 1, Index: 7}, {Name: "ä", Kind: 2, Index: 128}, {Name: "f", Kind: 3, Index: 1<<32 - 1}, {Name: strings.Repeat("n", 32), Index: 1},
		}}},
		{[]sec{of(8, "\x00")}, api.Module{Starts: true}},
		{[]sec{of(8, "\xe5\x8e\x26")}, api.Module{Starts: true, Start: 624485}},
	}
}

func segments() []written {
	return []written{
		{[]sec{of(9, "\x08"+
			"\x00\x41\x01\x0b\x02\x05\x80\x01"+
			"\x01\x00\x01\x07"+
			"\x02\x80\x01\x41\x02\x0b\x00\x01\x08"+
			"\x03\x00\x02\x00\x00"+
			"\x04\x41\x03\x0b\x02\xd0\x70\x0b\xd2\x01\x0b"+
			"\x05\x6f\x01\xd0\x6f\x0b"+
			"\x06\x02\x0b\x70\x01\x0b"+
			"\x07\x70\x01\xd2\x02\x0b")}, api.Module{Elems: []api.Elem{
			{Type: 0x70, Offset: i32(1), Init: [][]api.Instr{ref(5), ref(128)}},
			{Mode: 1, Type: 0x70, Init: [][]api.Instr{ref(7)}},
			{Type: 0x70, Table: 128, Offset: i32(2), Init: [][]api.Instr{ref(8)}},
			{Mode: 2, Type: 0x70, Init: [][]api.Instr{ref(0), ref(0)}},
			{Type: 0x70, Offset: i32(3), Init: [][]api.Instr{null(0x70), ref(1)}},
			{Mode: 1, Type: 0x6f, Init: [][]api.Instr{null(0x6f)}},
			{Type: 0x70, Table: 2, Offset: only(), Init: [][]api.Instr{only()}},
			{Mode: 2, Type: 0x70, Init: [][]api.Instr{ref(2)}},
		}}},
		{[]sec{of(9, "\x08\x00\x0b\x00\x01\x00\x00\x02\x00\x0b\x00\x00\x03\x00\x00\x04\x0b\x00\x05\x70\x00\x06"+most+"\x0b\x6f\x00\x07\x6f\x00")}, api.Module{Elems: []api.Elem{
			{Type: 0x70, Offset: only()}, {Mode: 1, Type: 0x70}, {Type: 0x70, Offset: only()}, {Mode: 2, Type: 0x70},
			{Type: 0x70, Offset: only()}, {Mode: 1, Type: 0x70}, {Type: 0x6f, Table: 1<<32 - 1, Offset: only()}, {Mode: 2, Type: 0x6f},
		}}},
		{[]sec{of(11, "\x05\x00\x41\x01\x0b\x02ab\x01\x00\x01\x01\xff\x02\x00\x41\x02\x0b\x01c\x00\x0b\x00")}, api.Module{Datas: []api.Data{
			{Offset: i32(1), Bytes: []byte("ab")}, {Mode: 1}, {Mode: 1, Bytes: []byte("\xff")}, {Offset: i32(2), Bytes: []byte("c")}, {Offset: only()},
		}}},
		{[]sec{of(12, "\x00")}, api.Module{Counts: true}},
		{[]sec{of(12, "\x02"), of(11, "\x02\x01\x00\x01\x01x")}, api.Module{Counts: true, Count: 2, Datas: []api.Data{{Mode: 1}, {Mode: 1, Bytes: []byte("x")}}}},
		{[]sec{of(11, "\x01\x01\xc8\x01"+strings.Repeat("d", 200))}, api.Module{Datas: []api.Data{{Mode: 1, Bytes: []byte(strings.Repeat("d", 200))}}}},
	}
}

func bodies() []written {
	several := api.Module{Funcs: []uint32{0, 0, 0}, Codes: []api.Code{
		{Locals: []byte("\x7f\x7f\x6f"), Body: only()},
		{Body: []api.Instr{{Op: 0x20}, {Op: 2, T: -64}, {Op: 0x0e, L: []uint32{0, 1}}, end, end}},
		{Locals: []byte("\x7e"), Body: only()},
	}}
	return []written{
		{withCodes("\x00\x0b"), api.Module{Funcs: []uint32{0}, Codes: []api.Code{{Body: only()}}}},
		{[]sec{of(3, "\x02\x07"+most), codes("\x00\x0b", "\x00\x0b")}, api.Module{Funcs: []uint32{7, 1<<32 - 1}, Codes: []api.Code{{Body: only()}, {Body: only()}}}},
		{withCodes("\x02\x02\x7f\x01\x6f\x0b", "\x00\x20\x00\x02\x40\x0e\x02\x00\x01\x00\x0b\x0b", "\x03\x00\x7f\x01\x7e\x00\x70\x0b"), several},
		{withCodes("\x01\x40\x70\x0b"), api.Module{Funcs: []uint32{0}, Codes: []api.Code{{Locals: slices.Repeat([]byte{0x70}, 64), Body: only()}}}},
		{[]sec{functions(1), of(12, "\x00"), codes("\x00\xfc\x08\x05\x00\xfc\x09\x07\x0b")}, api.Module{Funcs: []uint32{0}, Counts: true, Codes: []api.Code{{Body: []api.Instr{{Op: 0xfc08, A: 5}, {Op: 0xfc09, A: 7}, end}}}}},
		{withCodes("\x00\xfc\x0a\x00\x00\xfc\x0b\x00\xfc\x0c\x01\x02\xfc\x0d\x03\x0b"), api.Module{Funcs: []uint32{0}, Codes: []api.Code{{Body: []api.Instr{{Op: 0xfc0a}, {Op: 0xfc0b}, {Op: 0xfc0c, A: 1, B: 2}, {Op: 0xfc0d, A: 3}, end}}}}},
	}
}

// all has something in each section, and sections without a place between them.
func all() written {
	l := []sec{
		of(1, "\x01\x60\x01\x7f\x02\x7f\x7e"), of(0, "\x01n\x01"), of(2, "\x00"), of(3, "\x01\x00"), of(4, "\x01\x70\x01\x02\x09"), of(5, "\x01\x00\x01"), of(6, "\x01\x7f\x01\x41\x05\x0b"),
		of(7, "\x01\x01f\x00\x00"), of(8, "\x00"), of(9, "\x02\x06\x00\x41\x01\x0b\x70\x01\xd0\x70\x0b\x03\x00\x01\x00"), of(0, "\x00"), of(12, "\x02"), codes("\x01\x02\x7e\xfc\x09\x01\x0b"), of(11, "\x02\x00\x41\x02\x0b\x01a\x01\x02bc"), of(0, "\x00"),
	}
	return written{l, api.Module{
		Types:   []api.FuncType{{Params: []byte("\x7f"), Results: []byte("\x7f\x7e")}},
		Funcs:   []uint32{0},
		Tables:  []api.Table{{Type: 0x70, Limits: api.Limits{Min: 2, Max: 9, Has: true}}},
		Mems:    []api.Limits{{Min: 1}},
		Globals: []api.Global{{Type: 0x7f, Mut: true, Init: i32(5)}},
		Exports: []api.Export{{Name: "f"}},
		Starts:  true,
		Elems:   []api.Elem{{Type: 0x70, Offset: i32(1), Init: [][]api.Instr{null(0x70)}}, {Mode: 2, Type: 0x70, Init: [][]api.Instr{ref(0)}}},
		Counts:  true,
		Count:   2,
		Codes:   []api.Code{{Locals: []byte("\x7e\x7e"), Body: []api.Instr{{Op: 0xfc09, A: 1}, end}}},
		Datas:   []api.Data{{Offset: i32(2), Bytes: []byte("a")}, {Mode: 1, Bytes: []byte("bc")}},
	}}
}

// takes asks that in is this module.
func takes(t *testing.T, in string, want api.Module) {
	t.Helper()
	if got, e := mod.Take([]byte(in)); text(got) != text(want) || e != api.OK {
		t.Errorf("Take(%.200q): %.400s, error %d, want %.400s", in, text(got), e, text(want))
	}
}

// refused asks that in is no module, and that nothing is told beside the error.
func refused(t *testing.T, in string, want api.Errno) {
	t.Helper()
	if got, e := mod.Take([]byte(in)); text(got) != text(api.Module{}) || e != want {
		t.Errorf("Take(%.200q): %.400s, error %d, want %d", in, text(got), e, want)
	}
}

func TestTakeReadsModules(t *testing.T) {
	for _, w := range whole() {
		takes(t, join(w.l...), w.m)
	}
}

// TestTakeReadsSectionsWhateverElseIsThere: sections 0 are anywhere, and say nothing.
func TestTakeReadsSectionsWhateverElseIsThere(t *testing.T) {
	for _, w := range whole() {
		for place := range len(w.l) + 1 {
			for _, other := range []string{"\x00", "\x04name\xff", "\x01n" + join(of(1, "\x21"))} {
				takes(t, join(slices.Insert(slices.Clone(w.l), place, of(0, other))...), w.m)
			}
		}
	}
}

// TestTakeReadsLongerNumbers: each number of a module, in more bytes than it needs.
func TestTakeReadsLongerNumbers(t *testing.T) {
	for _, w := range []written{
		{[]sec{of(1, "\x81\x00\x60\x80\x00\x80\x00"), of(2, "\x80\x80\x00"), of(5, "\x81\x00\x00\x81\x00")}, api.Module{Types: []api.FuncType{{}}, Mems: []api.Limits{{Min: 1}}}},
		{[]sec{of(3, "\x81\x00\x83\x80\x00"), of(10, "\x81\x00\x87\x00\x81\x00\x82\x00\x7f\x01\x0b")}, api.Module{Funcs: []uint32{3}, Codes: []api.Code{{Locals: []byte("\x7f\x7f"), Body: []api.Instr{{Op: 1}, end}}}}},
		{[]sec{of(6, "\x81\x00\x7f\x00\x41\x80\x00\x0b"), of(7, "\x81\x00\x81\x80\x00f\x00\x85\x00"), of(8, "\x84\x80\x80\x80\x00")}, api.Module{Globals: []api.Global{{Type: 0x7f, Init: i32(0)}}, Exports: []api.Export{{Name: "f", Index: 5}}, Starts: true, Start: 4}},
		{[]sec{of(9, "\x82\x00\x82\x80\x00\x83\x00\x0b\x00\x81\x00\x84\x00\x85\x00\x70\x81\x00\x0b")}, api.Module{Elems: []api.Elem{{Type: 0x70, Table: 3, Offset: only(), Init: [][]api.Instr{ref(4)}}, {Mode: 1, Type: 0x70, Init: [][]api.Instr{only()}}}}},
		{[]sec{of(12, "\x83\x80\x00"), of(11, "\x83\x00\x80\x00\x0b\x81\x00x\x81\x00\x80\x00\x82\x00\x80\x80\x00\x0b\x80\x00")}, api.Module{Counts: true, Count: 3, Datas: []api.Data{{Offset: only(), Bytes: []byte("x")}, {Mode: 1}, {Offset: only()}}}},
	} {
		takes(t, join(w.l...), w.m)
	}
}

// changed is a module whose section at place has another body.
func changed(l []sec, place int, body string) string {
	l = slices.Clone(l)
	l[place].body = body
	return join(l...)
}

func TestTakeTellsSectionsThatEndTooSoon(t *testing.T) {
	for _, w := range whole() {
		for place, x := range w.l {
			for n := range x.body {
				if x.id != 0 {
					refused(t, changed(w.l, place, x.body[:n]), api.ErrShort)
				}
			}
		}
	}
}

func TestTakeTellsBytesLeftInASection(t *testing.T) {
	for _, w := range whole() {
		for place, x := range w.l {
			for _, left := range []string{"\x00", "\x0b", "\x80", "\xff\xff", "\x00\x00\x00", endless} {
				if x.id != 0 {
					refused(t, changed(w.l, place, x.body+left), api.ErrForm)
				}
			}
		}
	}
}

func TestTakeTellsCodesThatEndTooSoonOrTooLate(t *testing.T) {
	for _, x := range []string{"\x00\x0b", "\x02\x02\x7f\x01\x6f\x0b", "\x00\x20\x80\x01\x02\x40\x0b\x0b", "\x01\x80\x00\x7f\x41\xe5\x8e\x26\x0b"} {
		met := func(x string) (e api.Errno) {
			_, e = mod.Take([]byte(join(withCodes("\x00\x0b", x, "\x00\x0b")...)))
			return e
		}
		if e := met(x); e != api.OK {
			t.Errorf("a code %q: error %d", x, e)
		}
		// what a code lacks is not taken from the one behind it
		for n := range x {
			if e := met(x[:n]); e != api.ErrShort {
				t.Errorf("a code %q: error %d", x[:n], e)
			}
		}
		for _, left := range []string{"\x00", "\x0b", "\x80", "\xfd", "\x0b\x0b"} {
			if e := met(x + left); e != api.ErrForm {
				t.Errorf("a code %q: error %d", x+left, e)
			}
		}
	}
	// a length of more bytes than the section has is told ahead of what is wrong in them
	for _, in := range []string{"\x01\x01", "\x01\x05\x01\x41", "\x01\x04\x00\xfd\x0b", "\x02\x02\x00\x0b\x03\x00\xff", "\x01" + most + "\x00\xff"} {
		refused(t, join(functions(1), of(10, in)), api.ErrShort)
	}
	refused(t, join(functions(1), of(10, "\x01"+over32)), api.ErrForm)
	refused(t, join(functions(1), of(10, "\x01"+endless)), api.ErrForm)
}

// TestTakeTellsErrorsAsTheyAreMet: each of these is told at its place, whatever stands behind it, and if nothing does.
func TestTakeTellsErrorsAsTheyAreMet(t *testing.T) {
	for id, bodies := range map[byte]map[string]api.Errno{
		1: {
			"\x21": api.ErrLong, "\xa1\x00": api.ErrLong, most: api.ErrLong, over32: api.ErrForm, endless: api.ErrForm,
			"\x01\x61": api.ErrForm, "\x01\x60\x01\x7d": api.ErrProfile, "\x01\x60\x00\x01\x40": api.ErrForm, "\x01\x60\x09": api.ErrLong, "\x01\x60\x00\x09": api.ErrLong, "\x02\x60\x00\x00\x60\x01\x7b": api.ErrProfile, "\x02\x60\x00\x00\x00": api.ErrForm,
		},
		2: {"\x01": api.ErrProfile, "\x81\x00": api.ErrProfile, "\x21": api.ErrProfile, most: api.ErrProfile, over32: api.ErrForm, endless: api.ErrForm},
		3: {"\x21": api.ErrLong, most: api.ErrLong, over32: api.ErrForm, endless: api.ErrForm, "\x01" + over32: api.ErrForm, "\x02\x00" + endless: api.ErrForm},
		4: {
			"\x05": api.ErrLong, most: api.ErrLong, endless: api.ErrForm, "\x01\x7f": api.ErrForm, "\x01\x7e": api.ErrForm, "\x01\x40": api.ErrForm, "\x01\x00": api.ErrForm, "\x01\x7d": api.ErrProfile, "\x01\x7c": api.ErrProfile, "\x01\x7b": api.ErrProfile,
			"\x01\x70\x02": api.ErrForm, "\x01\x6f\x80": api.ErrForm, "\x01\x70\x00" + over32: api.ErrForm, "\x01\x70\x01\x00" + endless: api.ErrForm, "\x02\x70\x00\x00\x7d": api.ErrProfile,
		},
		5: {"\x05": api.ErrLong, most: api.ErrLong, endless: api.ErrForm, "\x01\x02": api.ErrForm, "\x01\x00" + over32: api.ErrForm, "\x02\x00\x00\x03": api.ErrForm},
		6: {
			"\x11": api.ErrLong, most: api.ErrLong, endless: api.ErrForm, "\x01\x7d": api.ErrProfile, "\x01\x7b": api.ErrProfile, "\x01\x40": api.ErrForm, "\x01\x7f\x02": api.ErrForm, "\x01\x7f\x80": api.ErrForm, "\x01\x7f\xff": api.ErrForm,
			"\x01\x7f\x00\x43": api.ErrProfile, "\x01\x7f\x00\xfd": api.ErrProfile, "\x01\x7f\x01\x05": api.ErrForm, "\x01\x7f\x01\x06": api.ErrForm, "\x01\x7f\x00\xd0\x7f": api.ErrForm, "\x02\x7f\x00\x0b\x7c": api.ErrProfile,
			"\x01\x7f\x00" + strings.Repeat("\x01", api.MaxBody): api.ErrLong, "\x01\x7f\x00" + strings.Repeat("\x02\x40", api.MaxNest+1): api.ErrLong,
		},
		7: {
			"\x21": api.ErrLong, most: api.ErrLong, endless: api.ErrForm, "\x01\x21": api.ErrLong, "\x01\xa1\x00": api.ErrLong, "\x01" + most: api.ErrLong, "\x01" + over32: api.ErrForm,
			"\x01\x01\xff": api.ErrForm, "\x01\x01\x80": api.ErrForm, "\x01\x02\xc0\x80": api.ErrForm, "\x01\x03\xed\xa0\x80": api.ErrForm, "\x01\x02a\xc3": api.ErrForm,
			"\x01\x00\x04": api.ErrForm, "\x01\x01a\x80": api.ErrForm, "\x01\x01a\xff": api.ErrForm, "\x01\x00\x00" + over32: api.ErrForm, "\x01\x00\x03" + endless: api.ErrForm, "\x02\x00\x00\x00\x21": api.ErrLong,
		},
		8: {over32: api.ErrForm, endless: api.ErrForm},
		9: {
			"\x11": api.ErrLong, most: api.ErrLong, endless: api.ErrForm, "\x01\x08": api.ErrForm, "\x01\x0f": api.ErrForm, "\x01\x88\x00": api.ErrForm, "\x01\x80\x01": api.ErrForm, "\x01" + most: api.ErrForm, "\x01" + endless: api.ErrForm,
			"\x01\x00\x43": api.ErrProfile, "\x01\x00\x05": api.ErrForm, "\x01\x02" + over32: api.ErrForm, "\x01\x02\x00\x05": api.ErrForm, "\x01\x06\x00\xfd": api.ErrProfile, "\x01\x04\x05": api.ErrForm,
			"\x01\x01\x01": api.ErrForm, "\x01\x01\x70": api.ErrForm, "\x01\x03\x80": api.ErrForm, "\x01\x02\x00\x0b\x01": api.ErrForm, "\x01\x01\x7d": api.ErrForm,
			"\x01\x05\x00": api.ErrForm, "\x01\x05\x7f": api.ErrForm, "\x01\x05\x7d": api.ErrProfile, "\x01\x07\x7e": api.ErrForm, "\x01\x07\x7c": api.ErrProfile, "\x01\x06\x00\x0b\x7b": api.ErrProfile, "\x01\x06\x00\x0b\x7f": api.ErrForm,
			"\x01\x00\x0b\x41": api.ErrLong, "\x01\x01\x00\x41": api.ErrLong, "\x01\x02\x00\x0b\x00\xc1\x00": api.ErrLong, "\x01\x03\x00" + most: api.ErrLong, "\x01\x04\x0b\x41": api.ErrLong, "\x01\x05\x70\x41": api.ErrLong, "\x01\x06\x00\x0b\x6f\x41": api.ErrLong, "\x01\x07\x70" + over32: api.ErrForm,
			"\x01\x01\x00\x01" + over32: api.ErrForm, "\x01\x03\x00\x02\x00" + endless: api.ErrForm, "\x01\x05\x70\x01\x05": api.ErrForm, "\x01\x07\x6f\x02\x0b\x43": api.ErrProfile, "\x02\x01\x00\x00\x08": api.ErrForm,
		},
		12: {over32: api.ErrForm, endless: api.ErrForm},
		10: {"\x21": api.ErrLong, "\xa1\x00": api.ErrLong, most: api.ErrLong, endless: api.ErrForm, "\x02\x03\x00\x0b\x00": api.ErrForm, "\x02\x04\x01\x01\x7d\x0b": api.ErrProfile},
		11: {
			"\x11": api.ErrLong, most: api.ErrLong, endless: api.ErrForm, "\x01\x03": api.ErrForm, "\x01\x07": api.ErrForm, "\x01\x83\x00": api.ErrForm, "\x01\x80\x01": api.ErrForm, "\x01" + most: api.ErrForm, "\x01" + endless: api.ErrForm,
			"\x01\x02\x01": api.ErrForm, "\x01\x02\x80\x01": api.ErrForm, "\x01\x02" + most: api.ErrForm, "\x01\x02" + over32: api.ErrForm, "\x01\x00\x05": api.ErrForm, "\x01\x00\x43": api.ErrProfile, "\x01\x02\x00\xfd": api.ErrProfile,
			"\x01\x00\x0b" + over32: api.ErrForm, "\x01\x01" + endless: api.ErrForm, "\x01\x02\x00\x0b" + endless: api.ErrForm, "\x02\x01\x00\x03": api.ErrForm,
		},
	} {
		for body, want := range bodies {
			for _, behind := range []string{"", "\x00", "\x0b", "\x0b\x0b\x0b", "\xff", "\x7d", "\xfd"} {
				refused(t, join(of(id, body+behind)), want)
				refused(t, join(of(id, body+behind), of(0, "\x01n")), want)
			}
		}
	}
}

func TestTakeTellsErrorsOfCodesAsTheyAreMet(t *testing.T) {
	sixtyFour := "\x40\x7f"
	for in, want := range map[string]api.Errno{
		over32: api.ErrForm, endless: api.ErrForm, "\x01" + over32: api.ErrForm, "\x01" + endless: api.ErrForm,
		"\x01\x00\x7d": api.ErrProfile, "\x01\x00\x40": api.ErrForm, "\x01\x01\x7c": api.ErrProfile, "\x01\x40\x7b": api.ErrProfile, "\x01\x40\x60": api.ErrForm, "\x02\x01\x7f\x01\x7d": api.ErrProfile,
		// more locals than there may be, ahead of their type
		"\x01\x41": api.ErrLong, "\x01\xc1\x00": api.ErrLong, "\x01\x41\x7d": api.ErrLong, "\x01" + most: api.ErrLong, "\x01\x80\x80\x80\x80\x08": api.ErrLong,
		"\x02" + sixtyFour + "\x01": api.ErrLong, "\x02\x3f\x7f\x02": api.ErrLong, "\x02\x01\x7f" + most: api.ErrLong, "\x03\x20\x7f\x20\x7e\x01": api.ErrLong, "\x02\x40\x7d\x41": api.ErrProfile, "\x02" + sixtyFour + over32: api.ErrForm,
		most + sixtyFour + "\x00\x7e\x01": api.ErrLong, most + "\x00\x7d": api.ErrProfile, most + "\x00\x7f\x41": api.ErrLong,
		// bodies
		"\x00\x43": api.ErrProfile, "\x00\xfd": api.ErrProfile, "\x00\x05": api.ErrForm, "\x00\x06": api.ErrForm, "\x01\x01\x7f\xfc\x00": api.ErrProfile, "\x00\x10" + over32: api.ErrForm,
		"\x00" + strings.Repeat("\x01", api.MaxBody): api.ErrLong, "\x00" + strings.Repeat("\x02\x40", api.MaxNest+1): api.ErrLong,
	} {
		for _, behind := range []string{"", "\x00", "\x0b", "\x0b\x0b\x0b", "\xff", "\x7d"} {
			refused(t, join(withCodes(in+behind)...), want)
			refused(t, join(withCodes("\x01\x40\x7f\x0b", in+behind, "\x00\x0b")...), want)
			// ahead of what is wrong behind all codes, and of how many there are
			refused(t, join(of(10, codes(in+behind).body+"\x00")), want)
		}
	}
	for in, n := range map[string]int{
		"\x02" + sixtyFour + "\x00\x7e": 64, "\x02\x00\x7e" + sixtyFour: 64, "\x02\x20\x7f\x20\x7e": 64, "\x01\xc0\x00\x7f": 64, "\x01\x3f\x7f": 63, "\xc0\x00" + strings.Repeat("\x01\x7f", 64): 64,
		"\xe8\x07" + strings.Repeat("\x00\x6f", 1000): 0, "\x80\x00": 0,
	} {
		if m, e := mod.Take([]byte(join(withCodes(in + "\x0b")...))); e != api.OK || len(m.Codes) != 1 || len(m.Codes[0].Locals) != n {
			t.Errorf("%.60q: not %d locals: %.200s, error %d", in, n, text(m), e)
		}
	}
	// what goes on for 2^32 - 1 entries ends where its bytes do
	refused(t, join(withCodes(most+strings.Repeat("\x00\x6f", 1000))...), api.ErrShort)
}

// repeated is a list of a section: what stands ahead of how many, one of it, and the most that there may be.
type repeated struct {
	id          byte
	front, each string
	most        int
}

func TestTakeHoldsTheGreatestLists(t *testing.T) {
	for _, x := range []repeated{
		{1, "", "\x60\x00\x00", 32}, {3, "", "\x00", 32}, {4, "", "\x70\x00\x00", 4}, {5, "", "\x00\x00", 4}, {6, "", "\x7f\x00\x0b", 16}, {7, "", "\x00\x00\x00", 32},
		{9, "", "\x01\x00\x00", 16}, {10, "", "\x02\x00\x0b", 32}, {11, "", "\x01\x00", 16},
		{9, "\x01\x00\x0b", "\x05", 64}, {9, "\x01\x01\x00", "\x05", 64}, {9, "\x01\x02\x03\x0b\x00", "\x05", 64}, {9, "\x01\x03\x00", "\x05", 64},
		{9, "\x01\x04\x0b", "\x0b", 64}, {9, "\x01\x05\x70", "\x0b", 64}, {9, "\x01\x06\x03\x0b\x6f", "\x0b", 64}, {9, "\x01\x07\x70", "\x0b", 64},
	} {
		// there are as many codes as functions
		with := func(n int) []sec {
			switch x.id {
			case 3:
				return []sec{of(3, count(n)+strings.Repeat(x.each, n)), codes(slices.Repeat([]string{"\x00\x0b"}, n)...)}
			case 10:
				return []sec{functions(min(n, x.most)), of(10, count(n)+strings.Repeat(x.each, n))}
			}
			return []sec{of(x.id, x.front+count(n)+strings.Repeat(x.each, n))}
		}
		for n := range x.most + 1 {
			in := join(with(n)...)
			m, e := mod.Take([]byte(in))
			if want, _ := expect([]byte(in)); e != api.OK || text(m) != text(want) {
				t.Errorf("%d of %q in section %d: %.200s, error %d", n, x.each, x.id, text(m), e)
			}
		}
		for _, n := range []int{x.most + 1, x.most + 2, 127} {
			refused(t, join(with(n)...), api.ErrLong)
			refused(t, join(of(x.id, x.front+count(n))), api.ErrLong)
		}
	}
}

func TestTakeHoldsTheLongestExpressions(t *testing.T) {
	longest, deepest := strings.Repeat("\x01", api.MaxBody-1)+"\x0b", strings.Repeat("\x02\x40", api.MaxNest)+strings.Repeat("\x0b", api.MaxNest+1)
	for id, around := range map[byte][2]string{6: {"\x01\x7f\x00", ""}, 9: {"\x01\x00", "\x00"}, 11: {"\x01\x00", "\x00"}} {
		for _, x := range []string{longest, deepest} {
			if _, e := mod.Take([]byte(join(of(id, around[0]+x+around[1])))); e != api.OK {
				t.Errorf("the longest in section %d: error %d", id, e)
			}
			refused(t, join(of(id, around[0]+"\x01\x02\x40"+x[:len(x)-1]+"\x0b\x0b"+around[1])), api.ErrLong)
		}
	}
}

// fails has for each section a body that ends too soon, and one with a byte left.
func fails() (list [][2]sec) {
	for _, id := range []byte{1, 2, 3, 4, 5, 6, 7, 8, 9, 12, 10, 11} {
		list = append(list, [2]sec{of(id, ""), of(id, "\x00\x00")})
	}
	return list
}

func TestTakeTellsTheFirstSectionsError(t *testing.T) {
	list := fails()
	for i, x := range list {
		for _, y := range list[i+1:] {
			refused(t, join(x[0], y[1]), api.ErrShort)
			refused(t, join(x[1], y[0]), api.ErrForm)
		}
	}
	// bytes left in one are told ahead of what is wrong in the next
	refused(t, join(of(1, "\x00\x00"), of(2, "\x01")), api.ErrForm)
	refused(t, join(of(2, "\x01"), of(3, "\x00\x00")), api.ErrProfile)
}

func TestTakeTellsSplitsErrorsAheadOfThem(t *testing.T) {
	for _, x := range fails() {
		in := join(x[0]) + "\x0d"
		refused(t, in, api.ErrForm)
		refused(t, join(x[0])+"\x00\x02\x01\xff", api.ErrForm)
		for _, cut := range []string{"\x00", "\x00\x80", "\x00\x02\x00"} {
			refused(t, join(x[1])+cut, api.ErrShort)
		}
	}
	refused(t, join(of(1, "\x21"), of(1, "\x00")), api.ErrForm)
	refused(t, join(of(2, "\x01"), of(1, "\x00")), api.ErrForm)
	front := join()
	for n := range front {
		refused(t, front[:n], api.ErrShort)
	}
	refused(t, "\x00asm\x02\x00\x00\x00", api.ErrForm)
	for _, w := range whole() {
		in := join(w.l...)
		for n := len(front); n < len(in); n++ {
			got, e := mod.Take([]byte(in[:n]))
			if want, wantE := expect([]byte(in[:n])); text(got) != text(want) || e != wantE {
				t.Errorf("Take(%q): %s, error %d, want %s, error %d", in[:n], text(got), e, text(want), wantE)
			}
		}
	}
}

func TestTakeTellsTooManyBytesAheadOfAll(t *testing.T) {
	start := of(8, "\x07")
	// padded is as long as it is said, with a section 0 whose length is two bytes
	padded := func(size int) string {
		short := join(of(0, "\x00"+strings.Repeat("p", 127)), start)
		return join(of(0, "\x00"+strings.Repeat("p", 127+size-len(short))), start)
	}
	for _, size := range []int{300, 4095, 4096} {
		if in := padded(size); len(in) != size {
			t.Errorf("%d bytes, not %d", len(in), size)
		} else {
			takes(t, in, api.Module{Starts: true, Start: 7})
		}
	}
	for _, size := range []int{4097, 4098, 8192} {
		refused(t, padded(size), api.ErrLong)
		refused(t, padded(size)+"\x0d", api.ErrLong)
		refused(t, join(of(1, "\x01\x7d"+strings.Repeat("\x00", size))), api.ErrLong)
		refused(t, strings.Repeat("\x00", size), api.ErrLong)
	}
	refused(t, padded(4095)+"\x0d", api.ErrForm)
	refused(t, padded(4096)[:4095], api.ErrShort)
	refused(t, strings.Repeat("\x00", 4096), api.ErrForm)
	refused(t, strings.Repeat("\x00", 1<<20), api.ErrLong)
}

func TestTakeAsksForAsManyCodesAsFunctions(t *testing.T) {
	for f := range 5 {
		for c := range 5 {
			bodies := slices.Repeat([]string{"\x00\x0b"}, c)
			in := join(functions(f), codes(bodies...))
			if f != c {
				refused(t, in, api.ErrForm)
			} else if _, e := mod.Take([]byte(in)); e != api.OK {
				t.Errorf("%d functions and codes: error %d", f, e)
			}
		}
		if f > 0 {
			refused(t, join(functions(f)), api.ErrForm)
			refused(t, join(withCodes(slices.Repeat([]string{"\x00\x0b"}, f)...)[1]), api.ErrForm)
		}
	}
	// behind the errors of all sections
	refused(t, join(functions(1), of(4, "\x01\x7d")), api.ErrProfile)
	refused(t, join(codes("\x00\x0b"), of(11, "\x11")), api.ErrLong)
}

func TestTakeAsksForAsManyDatasAsAreCounted(t *testing.T) {
	for n := range 4 {
		datas := of(11, count(n)+strings.Repeat("\x01\x00", n))
		for c := range 4 {
			in := join(of(12, count(c)), datas)
			if c != n {
				refused(t, in, api.ErrForm)
			} else if _, e := mod.Take([]byte(in)); e != api.OK {
				t.Errorf("%d datas: error %d", n, e)
			}
		}
		refused(t, join(of(12, most), datas), api.ErrForm)
		refused(t, join(of(12, "\x80\x80\x80\x80\x08"), datas), api.ErrForm)
		if _, e := mod.Take([]byte(join(datas))); e != api.OK {
			t.Errorf("%d datas, not counted: error %d", n, e)
		}
	}
	for c := 1; c < 4; c++ {
		refused(t, join(of(12, count(c))), api.ErrForm)
	}
	// behind the errors of all sections
	refused(t, join(of(12, "\x05"), of(11, "\x01\x00\x43")), api.ErrProfile)
}

func TestTakeAsksForACountWhereCodesNameDatas(t *testing.T) {
	for _, x := range []string{"\xfc\x08\x00\x00", "\xfc\x09\x00", "\xfc\x89\x00\x00"} {
		for _, body := range []string{"\x00" + x + "\x0b", "\x00\x01" + x + "\x01\x0b", "\x01\x01\x7f\x02\x40" + x + "\x0b\x0b"} {
			for place := range 3 {
				l := slices.Repeat([]string{"\x00\x0b"}, 3)
				l[place] = body
				data := of(11, "\x01\x01\x00")
				refused(t, join(functions(3), codes(l...)), api.ErrForm)
				refused(t, join(functions(3), codes(l...), data), api.ErrForm)
				// which data it names is not asked here
				for _, in := range []string{join(functions(3), of(12, "\x01"), codes(l...), data), join(functions(3), of(12, "\x00"), codes(l...))} {
					if _, e := mod.Take([]byte(in)); e != api.OK {
						t.Errorf("Take(%q): error %d", in, e)
					}
				}
				refused(t, join(functions(3), of(12, "\x02"), codes(l...), data), api.ErrForm)
				refused(t, join(functions(3), codes(l...), of(11, "\x11")), api.ErrLong)
			}
		}
		// an expression is no code
		for _, l := range []sec{of(6, "\x01\x7f\x00"+x+"\x0b"), of(9, "\x01\x00"+x+"\x0b\x00"), of(9, "\x01\x05\x70\x01"+x+"\x0b"), of(11, "\x01\x00"+x+"\x0b\x00")} {
			if _, e := mod.Take([]byte(join(l))); e != api.OK {
				t.Errorf("%q: error %d", l.body, e)
			}
		}
	}
}

// hold holds Take of these sections against the chapter's words.
func hold(t *testing.T, l ...sec) {
	t.Helper()
	in := []byte(join(l...))
	got, e := mod.Take(in)
	want, wantE := expect(in)
	if e != wantE || e == api.OK && text(got) != text(want) || e != api.OK && !reflect.DeepEqual(got, api.Module{}) {
		t.Fatalf("Take(%q): %s, error %d, want %s, error %d", in, text(got), e, text(want), wantE)
	}
}

// TestTakeOfOneOtherByte changes each byte of each section to all others.
func TestTakeOfOneOtherByte(t *testing.T) {
	for _, w := range whole() {
		for place, x := range w.l {
			for i := range len(x.body) {
				if x.id == 0 || i > 60 {
					continue
				}
				for v := range 256 {
					l, b := slices.Clone(w.l), []byte(x.body)
					b[i] = byte(v)
					l[place].body = string(b)
					hold(t, l...)
				}
			}
		}
	}
}

func TestTakeOfAllShortSections(t *testing.T) {
	for id, letters := range map[byte]string{
		1: "\x00\x01\x60\x7f\x7d\x80", 2: "\x00\x01\x7f\x80\xff", 3: "\x00\x01\x02\x20\x21\x80", 4: "\x00\x01\x02\x70\x7f\x7d", 5: "\x00\x01\x02\x04\x05\x80",
		6: "\x00\x01\x7f\x0b\x41\x7d", 7: "\x00\x01\x03\x04a\xff", 8: "\x00\x01\x7f\x80\xff", 12: "\x00\x01\x80\xff", 11: "\x00\x01\x02\x03\x0b\x41",
	} {
		probe.Rows(letters, 6, func(row []byte) { hold(t, of(id, string(row))) })
	}
	probe.Rows("\x00\x01\x02\x04\x07\x0b\x70", 6, func(row []byte) {
		hold(t, of(9, string(row)))
		hold(t, of(9, "\x01"+string(row)))
	})
	probe.Rows("\x00\x01\x02\x0b\x40\x7f\x41", 6, func(row []byte) {
		hold(t, functions(1), codes(string(row)))
		hold(t, functions(1), of(10, "\x01"+string(row)))
	})
	probe.Rows("\x00\x02\x0b\xfc\x08\x09", 6, func(row []byte) {
		hold(t, functions(1), codes("\x00"+string(row)))
		hold(t, functions(1), of(12, "\x00"), codes("\x00"+string(row)))
	})
}

func TestTakeLeavesWhatIsHandedInAndSharesNothing(t *testing.T) {
	for _, w := range whole() {
		in, unchanged := probe.Handed([]byte(join(w.l...)))
		first, _ := mod.Take(in)
		second, _ := mod.Take(in)
		if !unchanged() {
			t.Errorf("%q: what was handed in is changed", in)
		}
		if !probe.Apart(in, first, second) {
			t.Errorf("%q: two lists share memory", in)
		}
	}
}
