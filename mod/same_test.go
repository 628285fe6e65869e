package mod_test

import (
	"slices"
	"testing"

	"cloakroom/api"
	"cloakroom/mod"
)

// full has something in each field, in two of each list.
func full() api.Module {
	return api.Module{
		Types:   []api.FuncType{{Params: []byte{1, 2}, Results: []byte{3}}, {Params: []byte{4}, Results: []byte{5, 6}}},
		Funcs:   []uint32{1, 2},
		Tables:  []api.Table{{Type: 1, Limits: api.Limits{Min: 2, Max: 3, Has: true}}, {Type: 4}},
		Mems:    []api.Limits{{Min: 1, Max: 2, Has: true}, {Min: 3}},
		Globals: []api.Global{{Type: 1, Mut: true, Init: i32(2)}, {Type: 3, Init: i32(4)}},
		Exports: []api.Export{{Name: "a", Kind: 1, Index: 2}, {Name: "b", Kind: 3, Index: 4}},
		Starts:  true,
		Start:   1,
		Elems:   []api.Elem{{Mode: 1, Type: 2, Table: 3, Offset: i32(4), Init: [][]api.Instr{ref(5), ref(6)}}, {Type: 7, Offset: i32(8), Init: [][]api.Instr{ref(9)}}},
		Counts:  true,
		Count:   2,
		Codes:   []api.Code{{Locals: []byte{1, 2}, Body: i32(3)}, {Locals: []byte{4}, Body: i32(5)}},
		Datas:   []api.Data{{Mode: 1, Offset: i32(2), Bytes: []byte{3, 4}}, {Offset: i32(5), Bytes: []byte{6}}},
	}
}

// changes are all ways in which one field of one part becomes another.
func changes() map[string]func(m *api.Module) {
	list := map[string]func(m *api.Module){
		"Starts": func(m *api.Module) { m.Starts = false },
		"Start":  func(m *api.Module) { m.Start++ },
		"Counts": func(m *api.Module) { m.Counts = false },
		"Count":  func(m *api.Module) { m.Count++ },
	}
	for i, at := range []string{", the first", ", the second"} {
		for name, change := range changesAt(i) {
			list[name+at] = change
		}
	}
	return list
}

func changesAt(i int) map[string]func(m *api.Module) {
	return map[string]func(m *api.Module){
		"Params":        func(m *api.Module) { m.Types[i].Params[0]++ },
		"less Params":   func(m *api.Module) { m.Types[i].Params = m.Types[i].Params[1:] },
		"Results":       func(m *api.Module) { m.Types[i].Results[0]++ },
		"more Results":  func(m *api.Module) { m.Types[i].Results = append(m.Types[i].Results, 9) },
		"Funcs":         func(m *api.Module) { m.Funcs[i] += 5 },
		"a table's":     func(m *api.Module) { m.Tables[i].Type++ },
		"a table's Min": func(m *api.Module) { m.Tables[i].Limits.Min++ },
		"a table's Max": func(m *api.Module) { m.Tables[i].Limits.Max++ },
		"a table's Has": func(m *api.Module) { m.Tables[i].Limits.Has = !m.Tables[i].Limits.Has },
		"Min":           func(m *api.Module) { m.Mems[i].Min++ },
		"Max":           func(m *api.Module) { m.Mems[i].Max++ },
		"Has":           func(m *api.Module) { m.Mems[i].Has = !m.Mems[i].Has },
		"a global's":    func(m *api.Module) { m.Globals[i].Type++ },
		"Mut":           func(m *api.Module) { m.Globals[i].Mut = !m.Globals[i].Mut },
		"Init":          func(m *api.Module) { m.Globals[i].Init[0].N++ },
		"less Init":     func(m *api.Module) { m.Globals[i].Init = m.Globals[i].Init[:1] },
		"Name":          func(m *api.Module) { m.Exports[i].Name += "x" },
		"no Name":       func(m *api.Module) { m.Exports[i].Name = "" },
		"Kind":          func(m *api.Module) { m.Exports[i].Kind++ },
		"Index":         func(m *api.Module) { m.Exports[i].Index++ },
		"an elem's":     func(m *api.Module) { m.Elems[i].Mode++ },
		"its Type":      func(m *api.Module) { m.Elems[i].Type++ },
		"its Table":     func(m *api.Module) { m.Elems[i].Table++ },
		"its Offset":    func(m *api.Module) { m.Elems[i].Offset[0].N++ },
		"no Offset":     func(m *api.Module) { m.Elems[i].Offset = nil },
		"its Init":      func(m *api.Module) { m.Elems[i].Init[len(m.Elems[i].Init)-1][0].A++ },
		"less of it":    func(m *api.Module) { m.Elems[i].Init = m.Elems[i].Init[1:] },
		"more of it":    func(m *api.Module) { m.Elems[i].Init = append(m.Elems[i].Init, ref(1)) },
		"Locals":        func(m *api.Module) { m.Codes[i].Locals[0]++ },
		"no Locals":     func(m *api.Module) { m.Codes[i].Locals = nil },
		"Body":          func(m *api.Module) { m.Codes[i].Body[0].N++ },
		"more Body":     func(m *api.Module) { m.Codes[i].Body = append(m.Codes[i].Body, end) },
		"a data's":      func(m *api.Module) { m.Datas[i].Mode++ },
		"a data's from": func(m *api.Module) { m.Datas[i].Offset[0].N++ },
		"Bytes":         func(m *api.Module) { m.Datas[i].Bytes[0]++ },
		"less Bytes":    func(m *api.Module) { m.Datas[i].Bytes = m.Datas[i].Bytes[1:] },
	}
}

// lists are all ways in which one list loses its last part, or its order.
func lists() map[string]func(m *api.Module) {
	return map[string]func(m *api.Module){
		"Types": func(m *api.Module) { m.Types = m.Types[:1] }, "Funcs": func(m *api.Module) { m.Funcs = m.Funcs[:1] }, "Tables": func(m *api.Module) { m.Tables = m.Tables[:1] },
		"Mems": func(m *api.Module) { m.Mems = m.Mems[:1] }, "Globals": func(m *api.Module) { m.Globals = m.Globals[:1] }, "Exports": func(m *api.Module) { m.Exports = m.Exports[:1] },
		"Elems": func(m *api.Module) { m.Elems = m.Elems[:1] }, "Codes": func(m *api.Module) { m.Codes = m.Codes[:1] }, "Datas": func(m *api.Module) { m.Datas = m.Datas[:1] },
		"Types' order": func(m *api.Module) { slices.Reverse(m.Types) }, "Funcs' order": func(m *api.Module) { slices.Reverse(m.Funcs) }, "Tables' order": func(m *api.Module) { slices.Reverse(m.Tables) },
		"Mems' order": func(m *api.Module) { slices.Reverse(m.Mems) }, "Globals' order": func(m *api.Module) { slices.Reverse(m.Globals) }, "Exports' order": func(m *api.Module) { slices.Reverse(m.Exports) },
		"Elems' order": func(m *api.Module) { slices.Reverse(m.Elems) }, "Codes' order": func(m *api.Module) { slices.Reverse(m.Codes) }, "Datas' order": func(m *api.Module) { slices.Reverse(m.Datas) },
		"no Types": func(m *api.Module) { m.Types = nil }, "no Elems": func(m *api.Module) { m.Elems = nil }, "no Codes": func(m *api.Module) { m.Codes = nil },
	}
}

func TestSameTellsWhetherAllFieldsAre(t *testing.T) {
	if !mod.Same(full(), full()) || !mod.Same(api.Module{}, api.Module{}) {
		t.Error("Same of the same: no")
	}
	if mod.Same(full(), api.Module{}) || mod.Same(api.Module{}, full()) {
		t.Error("Same of something and nothing: yes")
	}
	for _, list := range []map[string]func(m *api.Module){changes(), lists()} {
		for name, change := range list {
			x, y := full(), full()
			change(&x)
			if mod.Same(x, y) || mod.Same(y, x) {
				t.Errorf("%s: the same", name)
			}
			if change(&y); !mod.Same(x, y) {
				t.Errorf("%s in both: not the same", name)
			}
		}
	}
}

func TestSameHoldsNilAndEmptyAsOne(t *testing.T) {
	none := []api.Instr{}
	for _, x := range [][2]api.Module{
		{{}, {Types: []api.FuncType{}, Funcs: []uint32{}, Tables: []api.Table{}, Mems: []api.Limits{}, Globals: []api.Global{}, Exports: []api.Export{}, Elems: []api.Elem{}, Codes: []api.Code{}, Datas: []api.Data{}}},
		{{Types: []api.FuncType{{}}}, {Types: []api.FuncType{{Params: []byte{}, Results: []byte{}}}}},
		{{Globals: []api.Global{{}}}, {Globals: []api.Global{{Init: none}}}},
		{{Elems: []api.Elem{{}}}, {Elems: []api.Elem{{Offset: none, Init: [][]api.Instr{}}}}},
		{{Elems: []api.Elem{{Init: [][]api.Instr{nil}}}}, {Elems: []api.Elem{{Init: [][]api.Instr{none}}}}},
		{{Codes: []api.Code{{}}}, {Codes: []api.Code{{Locals: []byte{}, Body: none}}}},
		{{Datas: []api.Data{{}}}, {Datas: []api.Data{{Offset: none, Bytes: []byte{}}}}},
	} {
		if !mod.Same(x[0], x[1]) || !mod.Same(x[1], x[0]) {
			t.Errorf("Same(%s, with empty lists): no", text(x[0]))
		}
	}
	if mod.Same(api.Module{Types: []api.FuncType{{}}}, api.Module{}) || mod.Same(api.Module{Elems: []api.Elem{{Init: [][]api.Instr{nil}}}}, api.Module{Elems: []api.Elem{{}}}) {
		t.Error("Same: one empty part is none")
	}
}

func TestSameLeavesWhatIsHandedIn(t *testing.T) {
	x, y := full(), full()
	x.Types[0].Params[0]++
	before, other := text(x), text(y)
	mod.Same(x, y)
	mod.Same(x, x)
	if text(x) != before || text(y) != other {
		t.Error("what was handed in is changed")
	}
}

func TestSameOfWhatIsTaken(t *testing.T) {
	list := whole()
	for i, a := range list {
		for j, b := range list {
			x, _ := mod.Take([]byte(join(a.l...)))
			if got, want := mod.Same(x, b.m), text(a.m) == text(b.m); got != want {
				t.Errorf("Same of module %d taken, and %d: %v", i, j, got)
			}
		}
	}
}
