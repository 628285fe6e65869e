package val

import (
	"math/bits"
	"slices"

	"cloakroom/api"
	"cloakroom/op"
)

// Instructions that take and give values of types that what they name tells.
const (
	nop          = 0x01
	brIf         = 0x0d
	call         = 0x10
	callIndirect = 0x11
	selectTyped  = 0x1c
	localGet     = 0x20
	localSet     = 0x21
	localTee     = 0x22
	globalGet    = 0x23
	globalSet    = 0x24
	tableGet     = 0x25
	tableSet     = 0x26
	memorySize   = 0x3f
	memoryGrow   = 0x40
	i32Const     = 0x41
	i64Const     = 0x42
	refNull      = 0xd0
	refFunc      = 0xd2
	memoryInit   = 0xfc08
	dataDrop     = 0xfc09
	memoryCopy   = 0xfc0a
	memoryFill   = 0xfc0b
	tableInit    = 0xfc0c
	elemDrop     = 0xfc0d
	tableCopy    = 0xfc0e
	tableGrow    = 0xfc0f
	tableSize    = 0xfc10
	tableFill    = 0xfc11
)

// does is the type of an instruction that fits.
func does(takes []byte, gives ...byte) (api.FuncType, bool) {
	return api.FuncType{Params: takes, Results: gives}, true
}

// fitsNot is told of an instruction that fits nowhere.
func fitsNot() (api.FuncType, bool) {
	return api.FuncType{}, false
}

func list(types ...byte) []byte {
	return types
}

// typeOf answers what x takes and gives. No: what x names is not there, or not of its kind, or x is no instruction.
func (b *body) typeOf(x api.Instr) (api.FuncType, bool) {
	switch x.Op {
	case nop:
		return does(nil)
	case i32Const, i64Const, refNull:
		return b.ofConstant(x)
	case refFunc:
		return b.ofRefFunc(x)
	case selectTyped:
		return ofSelect(x)
	case brIf:
		return b.ofBrIf(x)
	case call:
		return b.ofFunc(x.A)
	case callIndirect:
		return b.ofCallIndirect(x)
	case localGet, localSet, localTee:
		return b.ofLocal(x)
	case globalGet, globalSet:
		return b.ofGlobal(x)
	case tableGet, tableSet, tableSize, tableGrow, tableFill, tableCopy:
		return b.ofTable(x)
	case tableInit, elemDrop:
		return b.ofElem(x)
	case memorySize, memoryGrow, memoryInit, memoryCopy, memoryFill:
		return b.ofMemory(x)
	case dataDrop:
		return api.FuncType{}, b.hasData(x.A)
	}
	if op.Width(x.Op) > 0 {
		return b.ofLoadOrStore(x)
	}
	return ofNumbers(x.Op)
}

func (b *body) ofConstant(x api.Instr) (api.FuncType, bool) {
	t, ok := constant(b.m, x)
	if !ok {
		return fitsNot()
	}
	return does(nil, t)
}

func (b *body) ofRefFunc(x api.Instr) (api.FuncType, bool) {
	if declared, ok := at(b.declared, x.A); !ok || !declared {
		return fitsNot()
	}
	return does(nil, api.Func)
}

func ofSelect(x api.Instr) (api.FuncType, bool) {
	if !isValue(x.A) {
		return fitsNot()
	}
	t := byte(x.A)
	return does(list(t, t, api.I32), t)
}

// ofBrIf gives what it takes along, for it may stay.
func (b *body) ofBrIf(x api.Instr) (api.FuncType, bool) {
	types, ok := b.label(x.A)
	if !ok {
		return fitsNot()
	}
	return does(slices.Concat(types, list(api.I32)), types...)
}

func (b *body) ofFunc(f uint32) (api.FuncType, bool) {
	number, ok := at(b.m.Funcs, f)
	if !ok {
		return fitsNot()
	}
	return at(b.m.Types, number)
}

func (b *body) ofCallIndirect(x api.Instr) (api.FuncType, bool) {
	t, ok := at(b.m.Types, x.A)
	if !ok {
		return fitsNot()
	}
	table, ok := at(b.m.Tables, x.B)
	if !ok || table.Type != api.Func {
		return fitsNot()
	}
	return does(slices.Concat(t.Params, list(api.I32)), t.Results...)
}

func (b *body) ofLocal(x api.Instr) (api.FuncType, bool) {
	t, ok := at(b.locals, x.A)
	if !ok {
		return fitsNot()
	}
	switch x.Op {
	case localGet:
		return does(nil, t)
	case localSet:
		return does(list(t))
	}
	return does(list(t), t)
}

func (b *body) ofGlobal(x api.Instr) (api.FuncType, bool) {
	global, ok := at(b.m.Globals, x.A)
	if !ok {
		return fitsNot()
	}
	if x.Op == globalGet {
		return does(nil, global.Type)
	}
	if !global.Mut {
		return fitsNot()
	}
	return does(list(global.Type))
}

func (b *body) ofTable(x api.Instr) (api.FuncType, bool) {
	table, ok := at(b.m.Tables, x.A)
	if !ok {
		return fitsNot()
	}
	switch x.Op {
	case tableGet:
		return does(list(api.I32), table.Type)
	case tableSet:
		return does(list(api.I32, table.Type))
	case tableSize:
		return does(nil, api.I32)
	case tableGrow:
		return does(list(table.Type, api.I32), api.I32)
	case tableFill:
		return does(list(api.I32, table.Type, api.I32))
	}
	from, ok := at(b.m.Tables, x.B)
	if !ok || from.Type != table.Type {
		return fitsNot()
	}
	return does(list(api.I32, api.I32, api.I32))
}

func (b *body) ofElem(x api.Instr) (api.FuncType, bool) {
	elem, ok := at(b.m.Elems, x.A)
	if !ok {
		return fitsNot()
	}
	if x.Op == elemDrop {
		return does(nil)
	}
	to, ok := at(b.m.Tables, x.B)
	if !ok || to.Type != elem.Type {
		return fitsNot()
	}
	return does(list(api.I32, api.I32, api.I32))
}

func (b *body) ofMemory(x api.Instr) (api.FuncType, bool) {
	if !b.hasMemory() || x.Op == memoryInit && !b.hasData(x.A) {
		return fitsNot()
	}
	switch x.Op {
	case memorySize:
		return does(nil, api.I32)
	case memoryGrow:
		return does(list(api.I32), api.I32)
	}
	return does(list(api.I32, api.I32, api.I32))
}

func (b *body) hasMemory() bool {
	return len(b.m.Mems) > 0
}

// hasData asks how many datas m says there are, if it does, for bodies stand ahead of the datas.
func (b *body) hasData(place uint32) bool {
	if b.m.Counts {
		return place < b.m.Count
	}
	_, ok := at(b.m.Datas, place)
	return ok
}

func (b *body) ofLoadOrStore(x api.Instr) (api.FuncType, bool) {
	// 2^A itself may be more than any number holds.
	greatest := bits.TrailingZeros(uint(op.Width(x.Op)))
	if !b.hasMemory() || uint64(x.A) > uint64(greatest) {
		return fitsNot()
	}
	switch x.Op {
	case 0x28, 0x2c, 0x2d, 0x2e, 0x2f: // i32.load, of 8 and of 16 bits
		return does(list(api.I32), api.I32)
	case 0x36, 0x3a, 0x3b: // i32.store, of 8 and of 16 bits
		return does(list(api.I32, api.I32))
	case 0x37, 0x3c, 0x3d, 0x3e: // i64.store, of 8, 16 and 32 bits
		return does(list(api.I32, api.I64))
	}
	return does(list(api.I32), api.I64)
}

// ofNumbers has the instructions that reckon with numbers from the stack alone.
func ofNumbers(op int) (api.FuncType, bool) {
	switch {
	case op == 0x45, within(op, 0x67, 0x69), within(op, 0xc0, 0xc1): // i32.eqz, bits counted, signs spread
		return does(list(api.I32), api.I32)
	case within(op, 0x46, 0x4f), within(op, 0x6a, 0x78): // comparisons, arithmetic
		return does(list(api.I32, api.I32), api.I32)
	case op == 0x50, op == 0xa7: // i64.eqz, i32.wrap_i64
		return does(list(api.I64), api.I32)
	case within(op, 0x51, 0x5a): // comparisons
		return does(list(api.I64, api.I64), api.I32)
	case within(op, 0x79, 0x7b), within(op, 0xc2, 0xc4): // bits counted, signs spread
		return does(list(api.I64), api.I64)
	case within(op, 0x7c, 0x8a): // arithmetic
		return does(list(api.I64, api.I64), api.I64)
	case within(op, 0xac, 0xad): // i64.extend_i32
		return does(list(api.I32), api.I64)
	}
	return fitsNot()
}

func within(op, first, last int) bool {
	return first <= op && op <= last
}
