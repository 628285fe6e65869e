package probe

import "cloakroom/api"

// Cursor goes through bytes by a chapter's words, for tests that work out by them what a call must answer. An error that is met is a panic, for Met to tell.
type Cursor struct {
	Bytes []byte
	At    int
}

// Met tells which error is met while read goes on.
func Met(read func()) (e api.Errno) {
	defer func() {
		switch met := recover().(type) {
		case nil:
		case api.Errno:
			e = met
		default:
			panic(met)
		}
	}()
	read()
	return api.OK
}

// Ask meets e, if what must hold does not.
func Ask(holds bool, e api.Errno) {
	if !holds {
		panic(e)
	}
}

// Octet reads a byte.
func (c *Cursor) Octet() byte {
	Ask(c.At < len(c.Bytes), api.ErrShort)
	c.At++
	return c.Bytes[c.At-1]
}

// Read reads what take answers of what is left.
func Read[T any](c *Cursor, take func([]byte) (T, int, api.Errno)) T {
	v, n, e := take(c.Bytes[c.At:])
	Ask(e == api.OK, e)
	c.At += n
	return v
}
