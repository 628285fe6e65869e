package asm_test

import (
	"strings"

	"cloakroom/api"
)

const (
	front = "\x00asm\x01\x00\x00\x00"
	most  = "\xff\xff\xff\xff\x0f" // 2^32 - 1, of leb
)

var end = api.Instr{Op: 0x0b}

func i32(n uint64) []api.Instr  { return []api.Instr{{Op: 0x41, N: n}, end} }
func ref(f uint32) []api.Instr  { return []api.Instr{{Op: 0xd2, A: f}, end} }
func null(t uint32) []api.Instr { return []api.Instr{{Op: 0xd0, A: t}, end} }
func only() []api.Instr         { return []api.Instr{end} }

// part is a part of a module, and its bytes by the chapter's words.
type part[T any] struct {
	x     T
	bytes string
}

func funcTypes() []part[api.FuncType] {
	return []part[api.FuncType]{
		{api.FuncType{}, "\x60\x00\x00"},
		{api.FuncType{Params: []byte("\x7f\x70"), Results: []byte("\x7e")}, "\x60\x02\x7f\x70\x01\x7e"},
		{api.FuncType{Params: []byte("\x6f\x6f\x7f\x7e\x70\x7f\x7f\x7f"), Results: []byte("\x7f\x7e\x6f\x70\x7f\x7f\x7f\x7e")}, "\x60\x08\x6f\x6f\x7f\x7e\x70\x7f\x7f\x7f\x08\x7f\x7e\x6f\x70\x7f\x7f\x7f\x7e"},
	}
}

func numbers() []part[uint32] {
	return []part[uint32]{
		{0, "\x00"}, {1, "\x01"}, {127, "\x7f"}, {128, "\x80\x01"}, {624485, "\xe5\x8e\x26"},
		{1<<14 - 1, "\xff\x7f"}, {1 << 14, "\x80\x80\x01"}, {1<<32 - 1, most},
	}
}

func tables() []part[api.Table] {
	return []part[api.Table]{
		{api.Table{Type: 0x70, Limits: api.Limits{Min: 1}}, "\x70\x00\x01"},
		{api.Table{Type: 0x6f, Limits: api.Limits{Min: 200, Max: 1, Has: true}}, "\x6f\x01\xc8\x01\x01"},
		{api.Table{Type: 0x6f}, "\x6f\x00\x00"},
	}
}

func mems() []part[api.Limits] {
	return []part[api.Limits]{
		{api.Limits{Min: 1, Has: true}, "\x01\x01\x00"},
		{api.Limits{Min: 1<<32 - 1, Max: 1<<32 - 1, Has: true}, "\x01" + most + most},
		{api.Limits{}, "\x00\x00"},
		{api.Limits{Min: 128}, "\x00\x80\x01"},
	}
}

func globals() []part[api.Global] {
	return []part[api.Global]{
		{api.Global{Type: 0x7f, Init: i32(1<<32 - 1)}, "\x7f\x00\x41\x7f\x0b"},
		{api.Global{Type: 0x7e, Mut: true, Init: []api.Instr{{Op: 0x42, N: 64}, end}}, "\x7e\x01\x42\xc0\x00\x0b"},
		{api.Global{Type: 0x70, Mut: true, Init: ref(128)}, "\x70\x01\xd2\x80\x01\x0b"},
		{api.Global{Type: 0x6f, Init: null(0x6f)}, "\x6f\x00\xd0\x6f\x0b"},
		{api.Global{Type: 0x7f, Init: []api.Instr{{Op: 2, T: -64}, {Op: 0xfc09, A: 3}, end, {Op: 0x23, A: 1}, end}}, "\x7f\x00\x02\x40\xfc\x09\x03\x0b\x23\x01\x0b"},
	}
}

func exports() []part[api.Export] {
	return []part[api.Export]{
		{api.Export{Name: "g", Kind: 3}, "\x01g\x03\x00"},
		{api.Export{}, "\x00\x00\x00"},
		{api.Export{Name: "ä€", Kind: 2, Index: 128}, "\x05\xc3\xa4\xe2\x82\xac\x02\x80\x01"},
		{api.Export{Name: strings.Repeat("n", 32), Kind: 1, Index: 1<<32 - 1}, "\x20" + strings.Repeat("n", 32) + "\x01" + most},
	}
}

// elems has each mode, with and without what makes an active one another's.
func elems() []part[api.Elem] {
	return []part[api.Elem]{
		{api.Elem{Type: 0x70, Offset: i32(0)}, "\x04\x41\x00\x0b\x00"},
		{api.Elem{Type: 0x70, Offset: i32(64), Init: [][]api.Instr{ref(5), null(0x70), only()}}, "\x04\x41\xc0\x00\x0b\x03\xd2\x05\x0b\xd0\x70\x0b\x0b"},
		{api.Elem{Type: 0x6f, Offset: only(), Init: [][]api.Instr{null(0x6f)}}, "\x06\x00\x0b\x6f\x01\xd0\x6f\x0b"},
		{api.Elem{Type: 0x70, Table: 1, Offset: i32(2), Init: [][]api.Instr{ref(7)}}, "\x06\x01\x41\x02\x0b\x70\x01\xd2\x07\x0b"},
		{api.Elem{Type: 0x6f, Table: 1<<32 - 1, Offset: i32(2)}, "\x06" + most + "\x41\x02\x0b\x6f\x00"},
		{api.Elem{Mode: 1, Type: 0x70, Init: [][]api.Instr{ref(1), ref(128)}}, "\x05\x70\x02\xd2\x01\x0b\xd2\x80\x01\x0b"},
		{api.Elem{Mode: 1, Type: 0x6f}, "\x05\x6f\x00"},
		{api.Elem{Mode: 2, Type: 0x70, Init: [][]api.Instr{ref(2)}}, "\x07\x70\x01\xd2\x02\x0b"},
		{api.Elem{Mode: 2, Type: 0x6f, Init: [][]api.Instr{null(0x6f)}}, "\x07\x6f\x01\xd0\x6f\x0b"},
	}
}

func codes() []part[api.Code] {
	return []part[api.Code]{
		{api.Code{Body: only()}, "\x02\x00\x0b"},
		{api.Code{Locals: []byte("\x7f"), Body: only()}, "\x04\x01\x01\x7f\x0b"},
		{api.Code{Locals: []byte("\x7f\x7f\x6f\x7f"), Body: []api.Instr{{Op: 0x20, A: 200}, {Op: 0x1a}, end}}, "\x0e\x04\x01\x7f\x01\x7f\x01\x6f\x01\x7f\x20\xc8\x01\x1a\x0b"},
		{api.Code{Body: []api.Instr{{Op: 2, T: -1}, {Op: 0x0e, L: []uint32{0, 128}, A: 1}, end, end}}, "\x0b\x00\x02\x7f\x0e\x02\x00\x80\x01\x01\x0b\x0b"},
		{api.Code{Locals: []byte(strings.Repeat("\x70", 64)), Body: only()}, "\x82\x01\x40" + strings.Repeat("\x01\x70", 64) + "\x0b"},
	}
}

func datas() []part[api.Data] {
	return []part[api.Data]{
		{api.Data{Offset: i32(1), Bytes: []byte("ab")}, "\x00\x41\x01\x0b\x02ab"},
		{api.Data{Offset: only()}, "\x00\x0b\x00"},
		{api.Data{Mode: 1}, "\x01\x00"},
		{api.Data{Mode: 1, Bytes: []byte("\xff\x00")}, "\x01\x02\xff\x00"},
		{api.Data{Mode: 1, Bytes: []byte(strings.Repeat("d", 200))}, "\x01\xc8\x01" + strings.Repeat("d", 200)},
	}
}

// leb is a number's shortest bytes.
func leb(v int) string {
	s := ""
	for ; v > 127; v /= 128 {
		s += string([]byte{byte(v%128 + 128)})
	}
	return s + string([]byte{byte(v)})
}

func sized(s string) string { return leb(len(s)) + s }

// lay sets list to n of these parts, from the one numbered first on, and answers the section's bytes.
func lay[T any](id string, list *[]T, parts []part[T], first, n int) string {
	*list = nil
	body := leb(n)
	for i := range n {
		p := parts[(first+i)%len(parts)]
		*list = append(*list, p.x)
		body += p.bytes
	}
	return id + sized(body)
}

// sections is how many sections there are, in their order: 1, 3, 4, 5, 6, 7, 8, 9, 12, 10, 11.
const sections = 11

// behindSection lays n parts (or a number) into m that stand at that place of the order, and answers the section's bytes.
func behindSection(m *api.Module, place, first, n int) string {
	number := numbers()[(first+n)%len(numbers())]
	switch place {
	case 0:
		return lay("\x01", &m.Types, funcTypes(), first, n)
	case 1:
		return lay("\x03", &m.Funcs, numbers(), first, n)
	case 2:
		return lay("\x04", &m.Tables, tables(), first, n)
	case 3:
		return lay("\x05", &m.Mems, mems(), first, n)
	case 4:
		return lay("\x06", &m.Globals, globals(), first, n)
	case 5:
		return lay("\x07", &m.Exports, exports(), first, n)
	case 6:
		m.Starts, m.Start = true, number.x
		return "\x08" + sized(number.bytes)
	case 7:
		return lay("\x09", &m.Elems, elems(), first, n)
	case 8:
		m.Counts, m.Count = true, number.x
		return "\x0c" + sized(number.bytes)
	case 9:
		return lay("\x0a", &m.Codes, codes(), first, n)
	}
	return lay("\x0b", &m.Datas, datas(), first, n)
}
