// Package reader goes through bytes from their front, for the layers that take back what was put.
package reader

import (
	"bytes"

	"cloakroom/api"
	"cloakroom/leb"
)

// Reader is embedded in what a layer takes apart. The first error that it meets stays, and nothing is left to read then: who reads may go on without asking, gets noughts, and asks at the End, or where it stops.
type Reader struct {
	rest []byte
	read int
	e    api.Errno
}

// New answers a Reader at b's front.
func New(b []byte) Reader {
	return Reader{rest: b}
}

// Fail tells that e was met here.
func (r *Reader) Fail(e api.Errno) {
	if r.e == api.OK {
		*r = Reader{e: e}
	}
}

// End answers the first error that was met; bytes that are left are one, too.
func (r *Reader) End() api.Errno {
	if r.Left() > 0 {
		r.Fail(api.ErrForm)
	}
	return r.e
}

// Stop answers, where bytes may be left, how many were read, and the first error that was met: beside one none were.
func (r *Reader) Stop() (n int, e api.Errno) {
	return r.read, r.e
}

// Failed tells whether an error was met, for who reads until something comes that may never come.
func (r *Reader) Failed() bool {
	return r.e != api.OK
}

// Left tells how many bytes are still to be read.
func (r *Reader) Left() int {
	return len(r.rest)
}

// Byte reads a byte.
func (r *Reader) Byte() byte {
	if r.Left() == 0 {
		r.Fail(api.ErrShort)
		return 0
	}
	b := r.rest[0]
	r.skip(1)
	return b
}

// Bytes reads n bytes, into new memory.
func (r *Reader) Bytes(n int) []byte {
	if n < 0 || n > r.Left() {
		r.Fail(api.ErrShort)
		return nil
	}
	b := bytes.Clone(r.rest[:n])
	r.skip(n)
	return b
}

// Sized reads a length of leb.U32, and as many bytes, into new memory.
func (r *Reader) Sized() []byte {
	return r.Bytes(int(r.U32()))
}

// U32 reads a number of leb.U32.
func (r *Reader) U32() uint32 {
	return Take(r, leb.U32)
}

// U64 reads a number of leb.U64.
func (r *Reader) U64() uint64 {
	return Take(r, leb.U64)
}

// S32 reads a number of leb.S32.
func (r *Reader) S32() int32 {
	return Take(r, leb.S32)
}

// S33 reads a number of leb.S33.
func (r *Reader) S33() int64 {
	return Take(r, leb.S33)
}

// S64 reads a number of leb.S64.
func (r *Reader) S64() int64 {
	return Take(r, leb.S64)
}

// Count reads how many follow, and fails with ErrLong ahead of them if they are more than most.
func (r *Reader) Count(most uint32) int {
	n := r.U32()
	if n > most {
		r.Fail(api.ErrLong)
		return 0
	}
	return int(n)
}

// Take reads what take answers of the bytes that are left, and as many of them as it tells.
func Take[T any](r *Reader, take func(b []byte) (T, int, api.Errno)) T {
	v, n, e := take(r.rest)
	if e != api.OK {
		r.Fail(e)
		return v
	}
	r.skip(n)
	return v
}

func (r *Reader) skip(n int) {
	r.rest = r.rest[n:]
	r.read += n
}
