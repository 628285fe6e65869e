package val

import (
	"bytes"

	"cloakroom/api"
)

// Instructions that open, part, close and leave blocks, or that take values of more than one type.
const (
	unreachable = 0x00
	blockOp     = 0x02
	loopOp      = 0x03
	ifOp        = 0x04
	elseOp      = 0x05
	endOp       = 0x0b
	br          = 0x0c
	brTable     = 0x0e
	returnOp    = 0x0f
	drop        = 0x1a
	selectAny   = 0x1b
	refIsNull   = 0xd1
)

// Types of blocks that have no number.
const (
	noType   = -64
	typeI32  = -1
	typeI64  = -2
	typeFunc = -16
	typeExt  = -17
)

const noElse = -1

// body is a function's body as far as it was gone through.
type body struct {
	stacks
	m        api.Module
	locals   []byte // params, too
	declared marks
	places   map[int]api.Block
}

// meet tells whether the instruction at that place fits there.
func (b *body) meet(place int, x api.Instr) bool {
	switch x.Op {
	case blockOp, loopOp, ifOp:
		return b.begin(place, x)
	case elseOp:
		return b.part()
	case endOp:
		return b.end()
	case unreachable:
		b.stop()
		return true
	case br:
		types, ok := b.label(x.A)
		return ok && b.jump(types)
	case brTable:
		return b.jumpByTable(x)
	case returnOp:
		return b.jump(b.outermost())
	case drop:
		_, ok := b.pop()
		return ok
	case selectAny:
		return b.choose()
	case refIsNull:
		return b.isNull()
	}
	t, ok := b.typeOf(x)
	return ok && b.pass(t)
}

func (b *body) begin(place int, x api.Instr) bool {
	t, ok := b.blockType(x.T)
	if !ok || x.Op == ifOp && !b.asks(place, t) || !b.take(t.Params...) {
		return false
	}
	b.open(x.Op, t)
	return true
}

// asks takes what an if of that type asks at that place. Where its else is missing, what it takes must do for what it gives.
func (b *body) asks(place int, t api.FuncType) bool {
	if b.places[place].Else == noElse && !bytes.Equal(t.Params, t.Results) {
		return false
	}
	return b.take(api.I32)
}

func (b *body) blockType(t int) (api.FuncType, bool) {
	switch t {
	case noType:
		return does(nil)
	case typeI32:
		return does(nil, api.I32)
	case typeI64:
		return does(nil, api.I64)
	case typeFunc:
		return does(nil, api.Func)
	case typeExt:
		return does(nil, api.Ext)
	}
	if t < 0 || t >= len(b.m.Types) {
		return api.FuncType{}, false
	}
	return b.m.Types[t], true
}

// part begins the other half of an if with what the if took.
func (b *body) part() bool {
	t, ok := b.leave()
	if !ok {
		return false
	}
	b.open(elseOp, t)
	return true
}

func (b *body) end() bool {
	t, ok := b.leave()
	b.push(t.Results...)
	return ok
}

// jump takes along what the label of a branch asks for.
func (b *body) jump(types []byte) bool {
	if !b.take(types...) {
		return false
	}
	b.stop()
	return true
}

// jumpByTable takes nothing off for the labels of the table: each of them is held against the same values, and those that are whatever may be of another type for each.
func (b *body) jumpByTable(x api.Instr) bool {
	last, ok := b.label(x.A)
	if !ok || !b.take(api.I32) {
		return false
	}
	for _, depth := range x.L {
		types, ok := b.label(depth)
		if !ok || len(types) != len(last) || !b.fits(types) {
			return false
		}
	}
	return b.jump(last)
}

// choose is the select that tells no type: it is for numbers alone.
func (b *body) choose() bool {
	if !b.take(api.I32) {
		return false
	}
	second, ok := b.pop()
	if !ok {
		return false
	}
	first, ok := b.pop()
	if !ok || !maybeNumber(first) || !maybeNumber(second) {
		return false
	}
	if first == whatever {
		first = second
	}
	if second != whatever && second != first {
		return false
	}
	b.values = append(b.values, first)
	return true
}

func maybeNumber(v value) bool {
	return v == whatever || v == api.I32 || v == api.I64
}

func (b *body) isNull() bool {
	v, ok := b.pop()
	if !ok || v != whatever && v != api.Func && v != api.Ext {
		return false
	}
	b.push(api.I32)
	return true
}
