package mod_test

import (
	"fmt"
	"strings"
	"unicode/utf8"

	"cloakroom/api"
	"cloakroom/code"
	"cloakroom/leb"
	"cloakroom/probe"
	"cloakroom/sect"
	"cloakroom/types"
)

// cursor goes through a section by the chapter's words: plainly, with its numbers written out.
type cursor struct{ probe.Cursor }

// expect works out by the chapter's words what Take answers.
func expect(b []byte) (m api.Module, e api.Errno) {
	if e := probe.Met(func() { readModule(&m, b) }); e != api.OK {
		return api.Module{}, e
	}
	return m, api.OK
}

func readModule(m *api.Module, b []byte) {
	probe.Ask(len(b) <= 4096, api.ErrLong)
	l, e := sect.Split(b)
	probe.Ask(e == api.OK, e)
	for _, x := range l {
		if x.ID == 0 {
			continue
		}
		c := cursor{probe.Cursor{Bytes: x.Body}}
		c.section(m, x.ID)
		probe.Ask(c.At == len(c.Bytes), api.ErrForm)
	}
	probe.Ask(len(m.Funcs) == len(m.Codes), api.ErrForm)
	probe.Ask(!m.Counts || int(m.Count) == len(m.Datas), api.ErrForm)
	for _, x := range m.Codes {
		for _, i := range x.Body {
			probe.Ask(m.Counts || i.Op != 0xfc08 && i.Op != 0xfc09, api.ErrForm)
		}
	}
}

func (c *cursor) section(m *api.Module, id byte) {
	switch id {
	case 1:
		for range c.many(32) {
			m.Types = append(m.Types, probe.Read(&c.Cursor, types.TakeFunc))
		}
	case 2:
		probe.Ask(c.number() == 0, api.ErrProfile)
	case 3:
		for range c.many(32) {
			m.Funcs = append(m.Funcs, c.number())
		}
	case 4:
		for range c.many(4) {
			m.Tables = append(m.Tables, api.Table{Type: c.refType(), Limits: c.limits()})
		}
	case 5:
		for range c.many(4) {
			m.Mems = append(m.Mems, c.limits())
		}
	case 6:
		for range c.many(16) {
			m.Globals = append(m.Globals, api.Global{Type: c.valueType(), Mut: c.below(2) == 1, Init: c.body()})
		}
	case 7:
		for range c.many(32) {
			m.Exports = append(m.Exports, api.Export{Name: c.name(), Kind: c.below(4), Index: c.number()})
		}
	case 8:
		m.Starts, m.Start = true, c.number()
	case 9:
		for range c.many(16) {
			m.Elems = append(m.Elems, c.elem())
		}
	case 10:
		for range c.many(32) {
			m.Codes = append(m.Codes, c.code())
		}
	case 11:
		for range c.many(16) {
			m.Datas = append(m.Datas, c.data())
		}
	case 12:
		m.Counts, m.Count = true, c.number()
	}
}

func (c *cursor) number() uint32       { return probe.Read(&c.Cursor, leb.U32) }
func (c *cursor) limits() api.Limits   { return probe.Read(&c.Cursor, types.TakeLimits) }
func (c *cursor) body() []api.Instr    { return probe.Read(&c.Cursor, code.Take) }
func (c *cursor) many(most int) uint32 { return c.upTo(uint32(most), api.ErrLong) }

func (c *cursor) upTo(most uint32, e api.Errno) uint32 {
	n := c.number()
	probe.Ask(n <= most, e)
	return n
}

func (c *cursor) below(room byte) byte {
	b := c.Octet()
	probe.Ask(b < room, api.ErrForm)
	return b
}

func (c *cursor) valueType() byte {
	t := c.Octet()
	probe.Ask(strings.IndexByte("\x7d\x7c\x7b", t) < 0, api.ErrProfile)
	probe.Ask(strings.IndexByte("\x7f\x7e\x70\x6f", t) >= 0, api.ErrForm)
	return t
}

func (c *cursor) refType() byte {
	t := c.valueType()
	probe.Ask(t == 0x70 || t == 0x6f, api.ErrForm)
	return t
}

func (c *cursor) octets(n uint32) []byte {
	probe.Ask(uint64(n) <= uint64(len(c.Bytes)-c.At), api.ErrShort)
	c.At += int(n)
	return c.Bytes[c.At-int(n) : c.At]
}

func (c *cursor) name() string {
	b := c.octets(c.many(32))
	probe.Ask(utf8.Valid(b), api.ErrForm)
	return string(b)
}

// elem has the eight kinds of elements one by one.
func (c *cursor) elem() (x api.Elem) {
	k := c.upTo(7, api.ErrForm)
	x.Mode = []byte{0, 1, 0, 2, 0, 1, 0, 2}[k]
	if k == 2 || k == 6 {
		x.Table = c.number()
	}
	if x.Mode == 0 {
		x.Offset = c.body()
	}
	x.Type = 0x70
	switch k {
	case 1, 2, 3:
		c.below(1)
	case 5, 6, 7:
		x.Type = c.refType()
	}
	for range c.many(64) {
		if k < 4 {
			x.Init = append(x.Init, []api.Instr{{Op: 0xd2, A: c.number()}, {Op: 0x0b}})
		} else {
			x.Init = append(x.Init, c.body())
		}
	}
	return x
}

func (c *cursor) code() (x api.Code) {
	in := cursor{probe.Cursor{Bytes: c.octets(c.number())}}
	for range in.number() {
		n := in.number()
		probe.Ask(uint64(len(x.Locals))+uint64(n) <= 64, api.ErrLong)
		t := in.valueType()
		for range n {
			x.Locals = append(x.Locals, t)
		}
	}
	x.Body = in.body()
	probe.Ask(in.At == len(in.Bytes), api.ErrForm)
	return x
}

func (c *cursor) data() (x api.Data) {
	k := c.upTo(2, api.ErrForm)
	if k == 2 {
		c.upTo(0, api.ErrForm)
	}
	if k == 1 {
		x.Mode = 1
	} else {
		x.Offset = c.body()
	}
	x.Bytes = c.octets(c.number())
	return x
}

// text writes all fields out, without the program's help: nil and empty lists are one in it.
func text(m api.Module) string {
	return fmt.Sprintf("%+v", m)
}
