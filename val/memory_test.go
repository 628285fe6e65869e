package val_test

import (
	"fmt"
	"math"
	"slices"
	"testing"

	"cloakroom/api"
	"cloakroom/op"
	"cloakroom/probe"
	"cloakroom/val"
)

// nowhereAtAll are modules in which numbers lead to nothing, or to what is none.
func nowhereAtAll() []api.Module {
	wild := world()
	wild.Types = []api.FuncType{typed("\x00\xff"+i32, "\x00\x01"), typed("", "\x7d")}
	wild.Funcs = []uint32{math.MaxUint32, 1 << 31, 2, 1}
	wild.Tables = []api.Table{{}, {Type: 0xff}, {Type: api.I32}}
	wild.Globals = []api.Global{{Mut: true}, {Type: 0xff, Init: []api.Instr{in(0xd2, math.MaxUint32)}}}
	wild.Exports = []api.Export{{Kind: 0xff, Index: math.MaxUint32}, {Index: math.MaxUint32}}
	wild.Elems = []api.Elem{{Mode: 0xff, Init: [][]api.Instr{nil, {in(0xd2, 1<<31)}}}, {Type: 0xff}}
	wild.Count = math.MaxUint32
	wild.Datas = nil
	return []api.Module{{}, world(), wild}
}

// TestEveryCallEnds: whatever is handed in, one of two answers comes.
func TestEveryCallEnds(t *testing.T) {
	ops := append([]int{math.MinInt, -1, 0x06, 0xfd, 0xfc00, 0xfc12, 0x1000b, math.MaxInt}, op.Names()...)
	numbers := []uint32{0, 1, 2, 31, 32, 63, 64, 127, 1 << 31, math.MaxUint32}
	kinds := []int{math.MinInt, -65, -64, -18, -3, -1, 0, 1, 2, 127, math.MaxInt}
	for _, m := range nowhereAtAll() {
		for _, x := range ops {
			for i, a := range numbers {
				y := api.Instr{Op: x, A: a, B: numbers[len(numbers)-1-i], N: math.MaxUint64, L: numbers[:i], T: kinds[i%len(kinds)]}
				for _, l := range [][]api.Instr{
					{y}, {y, end}, {y, y, end}, {in(0x00), y, end}, {in(0x00), y, y, end, end}, {in(0x41), y, in(0x05), y, end, end},
					{begin(0x02, kinds[i]), y, end, end}, {begin(0x03, kinds[i]), in(0x00), y, end, y, end},
				} {
					answers(t, m, l)
				}
			}
		}
	}
}

func answers(t *testing.T, m api.Module, l []api.Instr) {
	t.Helper()
	for _, f := range []api.FuncType{{}, typed("\x00"+i32, i32)} {
		if e := val.Body(m, f, api.Code{Locals: []byte{0xff}, Body: l}); e != api.OK && e != api.ErrType {
			t.Errorf("Body of %v: error %d", l, e)
		}
	}
	if e := val.Const(m, 0xff, l); e != api.ErrType {
		t.Errorf("Const of %v: error %d", l, e)
	}
}

// TestATypeThatIsNoneFitsNoOther: not even where it is written as what may be whatever could be.
func TestATypeThatIsNoneFitsNoOther(t *testing.T) {
	for none := range 0x100 {
		if slices.Contains([]byte(i32+i64+fun+ext), byte(none)) {
			continue
		}
		x := string([]byte{byte(none)})
		for _, known := range []string{i32, i64, fun, ext} {
			holdOn(t, world(), in(0x01), x, known, false)
			holdOn(t, world(), in(0x01), known, x, false)
			holdOn(t, world(), in(0x1c, uint32(known[0])), x+x+i32, known, false)
		}
		holdOn(t, world(), in(0x45), x, i32, false)
		holdOn(t, world(), in(0xd1), x, i32, false)
		holdOn(t, world(), in(0x1b), x+x+i32, x, false)
	}
}

func TestWhatIsHandedInStays(t *testing.T) {
	m := world()
	m.Types = append(m.Types, typed(i32+i64, i32+i64))
	spareTypes(m.Types)
	params, paramsStay := probe.Handed([]byte(i32 + i64))
	results, resultsStay := probe.Handed([]byte(i32 + i64))
	locals, localsStay := probe.Handed([]byte(fun + ext))
	labels, labelsStay := probe.Handed([]uint32{0, 1, 0})
	l := []api.Instr{
		in(0x20, 0), in(0x20, 1), begin(0x02, 6), begin(0x03, 6), in(0x41), in(0x0d, 1), in(0x41), {Op: 0x0e, L: labels, A: 1}, end, end,
		in(0x41), begin(0x04, 6), in(0x05), in(0x22, 1), end, in(0x20, 2), in(0x21, 2), in(0x0f), end, in(0x1a), in(0x0b),
	}
	for n := range l {
		whole := slices.Clone(l)
		before := fmt.Sprint(m, spareOf(m.Types), whole)
		val.Body(m, api.FuncType{Params: params, Results: results}, api.Code{Locals: locals, Body: whole[:n]})
		val.Const(m, api.I32, whole[:n])
		if after := fmt.Sprint(m, spareOf(m.Types), whole); after != before {
			t.Errorf("%d instructions: changed: %s, was %s", n, after, before)
		}
		if !paramsStay() || !resultsStay() || !localsStay() || !labelsStay() {
			t.Errorf("%d instructions: params, results, locals or labels are changed", n)
		}
	}
	hold(t, m, api.FuncType{Params: params, Results: results}, api.Code{Locals: locals, Body: l[:19]}, true)
}

// spareTypes lays the lists of l into memory with spare room.
func spareTypes(l []api.FuncType) {
	for i := range l {
		l[i].Params, _ = probe.Handed(l[i].Params)
		l[i].Results, _ = probe.Handed(l[i].Results)
	}
}

// spareOf answers all that l's lists reach.
func spareOf(l []api.FuncType) (all [][]byte) {
	for _, x := range l {
		all = append(all, x.Params[:cap(x.Params)], x.Results[:cap(x.Results)])
	}
	return all
}

// TestNilAndEmptyAreOne: of each list that is handed in.
func TestNilAndEmptyAreOne(t *testing.T) {
	f := api.FuncType{Params: []byte{}, Results: []byte{}}
	m := api.Module{
		Types: []api.FuncType{}, Funcs: []uint32{}, Tables: []api.Table{}, Mems: []api.Limits{}, Globals: []api.Global{},
		Exports: []api.Export{}, Elems: []api.Elem{}, Codes: []api.Code{}, Datas: []api.Data{},
	}
	c := api.Code{Locals: []byte{}, Body: []api.Instr{{Op: 0x41}, {Op: 0x0e, L: []uint32{}}, end}}
	hold(t, m, f, c, true)
	c.Body[1].L = nil
	hold(t, api.Module{}, api.FuncType{}, c, true)
	hold(t, m, f, api.Code{Body: []api.Instr{}}, false)
	for _, x := range []api.Instr{in(0x28), in(0x23), in(0x25), in(0x10), in(0xfc09), in(0xfc0d), begin(0x02, 0)} {
		hold(t, m, f, body(in(0x00), x, in(0x00)), false)
	}
}

// TestACallHangsOnWhatItIsHandedAlone: one body after another, and each again.
func TestACallHangsOnWhatItIsHandedAlone(t *testing.T) {
	for range 3 {
		hold(t, world(), typed("", i32), body(in(0x41)), true)
		hold(t, world(), typed("", i32), body(in(0x42)), false)
		hold(t, world(), typed("", fun), body(in(0xd2, 1)), true)
		hold(t, api.Module{Funcs: []uint32{0, 0}}, typed("", fun), body(in(0xd2, 1)), false)
		hold(t, world(), typed("", i32), body(in(0x00)), true)
		hold(t, world(), typed("", i32), body(), false)
	}
}
