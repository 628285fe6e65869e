package reader_test

import (
	"bytes"
	"testing"

	"cloakroom/api"
	"cloakroom/reader"
)

func TestReadsOneBehindTheOther(t *testing.T) {
	r := reader.New([]byte("\x07ab\xe5\x8e\x26\xff\xff\xff\xff\xff\xff\xff\xff\xff\x01" +
		"\x80\x80\x80\x80\x78\xff\xff\xff\xff\x0f\x80\x80\x80\x80\x80\x80\x80\x80\x80\x7f\x03\x82\x00cd\x80\x00"))
	if left := r.Left(); left != 43 {
		t.Errorf("%d bytes left", left)
	}
	if v := r.Byte(); v != 7 {
		t.Errorf("Byte: %d", v)
	}
	if v := r.Bytes(2); string(v) != "ab" {
		t.Errorf("Bytes: %q", v)
	}
	if v := r.U32(); v != 624485 {
		t.Errorf("U32: %d", v)
	}
	if v := r.U64(); v != 1<<64-1 {
		t.Errorf("U64: %d", v)
	}
	if v := r.S32(); v != -1<<31 {
		t.Errorf("S32: %d", v)
	}
	if v := r.S33(); v != 1<<32-1 {
		t.Errorf("S33: %d", v)
	}
	if v := r.S64(); v != -1<<63 {
		t.Errorf("S64: %d", v)
	}
	if v := r.Count(3); v != 3 {
		t.Errorf("Count: %d", v)
	}
	if v := r.Sized(); string(v) != "cd" {
		t.Errorf("Sized: %q", v)
	}
	if r.Failed() {
		t.Error("Failed, and nothing was met")
	}
	if left := r.Left(); left != 2 {
		t.Errorf("%d bytes left", left)
	}
	if v := r.Count(0); v != 0 {
		t.Errorf("Count: %d", v)
	}
	if v := r.Bytes(0); len(v) != 0 {
		t.Errorf("Bytes: %q", v)
	}
	if e := r.End(); e != api.OK {
		t.Errorf("End: error %d", e)
	}
}

// pair reads two bytes that are one, as a layer's Take does.
func pair(b []byte) (v string, n int, e api.Errno) {
	if len(b) < 2 {
		return "", 0, api.ErrShort
	}
	if b[0] != b[1] {
		return "", 0, api.ErrProfile
	}
	return string(b[:2]), 2, api.OK
}

func TestTakeReadsWhatItIsHanded(t *testing.T) {
	r := reader.New([]byte("aabbcd"))
	if first, second := reader.Take(&r, pair), reader.Take(&r, pair); first != "aa" || second != "bb" {
		t.Errorf("Take: %q, %q", first, second)
	}
	if n, e := r.Stop(); n != 4 || r.Left() != 2 || e != api.OK {
		t.Errorf("behind both: %d bytes, %d left, error %d", n, r.Left(), e)
	}
	if v := reader.Take(&r, pair); v != "" {
		t.Errorf("Take: %q", v)
	}
	noughts(t, "what is handed in tells an error", r, api.ErrProfile)
	r = reader.New([]byte("aab"))
	reader.Take(&r, pair)
	reader.Take(&r, pair)
	noughts(t, "what is handed in finds too few bytes", r, api.ErrShort)
}

// noughts asks what stands behind an error: this, however one goes on.
func noughts(t *testing.T, name string, r reader.Reader, want api.Errno) {
	t.Helper()
	for range 2 {
		if r.Left() != 0 || r.Byte() != 0 || len(r.Bytes(1)) != 0 || len(r.Bytes(0)) != 0 || len(r.Sized()) != 0 || r.U32() != 0 || r.U64() != 0 || r.S32() != 0 || r.S33() != 0 || r.S64() != 0 || r.Count(9) != 0 {
			t.Errorf("%s: something is read behind an error", name)
		}
		if !r.Failed() {
			t.Errorf("%s: an error was met, and is not told", name)
		}
		r.Fail(api.ErrStuck)
		if n, e := r.Stop(); n != 0 || e != want {
			t.Errorf("%s: stops behind %d bytes, error %d, want %d", name, n, e, want)
		}
		if e := r.End(); e != want {
			t.Errorf("%s: error %d, want %d", name, e, want)
		}
	}
}

func TestTheFirstErrorStays(t *testing.T) {
	for _, c := range []struct {
		name string
		in   string
		read func(r *reader.Reader)
		want api.Errno
	}{
		{"a byte of none", "", func(r *reader.Reader) { r.Byte() }, api.ErrShort},
		{"too many bytes", "abc", func(r *reader.Reader) { r.Bytes(4) }, api.ErrShort},
		{"fewer bytes than none", "abc", func(r *reader.Reader) { r.Bytes(-1) }, api.ErrShort},
		{"a length of more bytes than there are", "\x04abc", func(r *reader.Reader) { r.Sized() }, api.ErrShort},
		{"the greatest length", "\xff\xff\xff\xff\x0fabc", func(r *reader.Reader) { r.Sized() }, api.ErrShort},
		{"a length that is cut", "\x84", func(r *reader.Reader) { r.Sized() }, api.ErrShort},
		{"a length of more than 32 bits", "\xff\xff\xff\xff\x1f", func(r *reader.Reader) { r.Sized() }, api.ErrForm},
		{"a number of 32 bits that is cut", "\x80\x80", func(r *reader.Reader) { r.U32() }, api.ErrShort},
		{"a number of 64 bits that is cut", "\x80\x80", func(r *reader.Reader) { r.U64() }, api.ErrShort},
		{"a number of more than 32 bits", "\xff\xff\xff\xff\x1f\x01\x02", func(r *reader.Reader) { r.U32() }, api.ErrForm},
		{"a number of more than 64 bits", "\xff\xff\xff\xff\xff\xff\xff\xff\xff\x02\x01", func(r *reader.Reader) { r.U64() }, api.ErrForm},
		{"a signed number of 32 bits that is cut", "\xff\xff", func(r *reader.Reader) { r.S32() }, api.ErrShort},
		{"a signed number of 33 bits that is cut", "\xff\xff", func(r *reader.Reader) { r.S33() }, api.ErrShort},
		{"a signed number of 64 bits that is cut", "\xff\xff", func(r *reader.Reader) { r.S64() }, api.ErrShort},
		{"a signed number of more than 32 bits", "\xff\xff\xff\xff\x0f\x01", func(r *reader.Reader) { r.S32() }, api.ErrForm},
		{"a signed number of more than 33 bits", "\xff\xff\xff\xff\x1f\x01", func(r *reader.Reader) { r.S33() }, api.ErrForm},
		{"a signed number of more than 64 bits", "\xff\xff\xff\xff\xff\xff\xff\xff\xff\x01\x01", func(r *reader.Reader) { r.S64() }, api.ErrForm},
		{"too many", "\x04\x01\x02\x03\x04", func(r *reader.Reader) { r.Count(3) }, api.ErrLong},
		{"far too many", "\xff\xff\xff\xff\x0f\x01", func(r *reader.Reader) { r.Count(8) }, api.ErrLong},
		{"a count that is cut", "\x84", func(r *reader.Reader) { r.Count(3) }, api.ErrShort},
		{"a count of more than 32 bits", "\x80\x80\x80\x80\x80\x00", func(r *reader.Reader) { r.Count(3) }, api.ErrForm},
		{"bytes left", "\x00", func(r *reader.Reader) {}, api.ErrForm},
		{"what who reads finds", "abc", func(r *reader.Reader) { r.Fail(api.ErrProfile) }, api.ErrProfile},
		{"the first of two", "abc", func(r *reader.Reader) { r.Fail(api.ErrLong); r.Fail(api.ErrForm) }, api.ErrLong},
	} {
		r := reader.New([]byte(c.in))
		c.read(&r)
		if e := r.End(); e != c.want {
			t.Errorf("%s: error %d, want %d", c.name, e, c.want)
		}
		noughts(t, c.name, r, c.want)
	}
}

func TestBytesAreNewMemory(t *testing.T) {
	in := []byte("abcdef\x02gh")
	r := reader.New(in)
	first, second := r.Bytes(2), r.Bytes(2)
	_ = append(first, 'X', 'X')
	first[0] = 'X'
	if string(in) != "abcdef\x02gh" || string(second) != "cd" || !bytes.Equal(r.Bytes(2), []byte("ef")) {
		t.Errorf("memory is shared: %q, %q", in, second)
	}
	if r.Sized()[0] = 'X'; string(in) != "abcdef\x02gh" {
		t.Errorf("memory is shared: %q", in)
	}
}

func TestStopTellsHowManyBytesWereRead(t *testing.T) {
	r := reader.New([]byte("\x07ab\x80\x80\x00\xff\x01\x83\x00\x7f\xff\x7f\xff\xff\x7f\x81\x00czz"))
	for i, c := range []struct {
		read func()
		want int
	}{
		{func() {}, 0},
		{func() { r.Byte() }, 1},
		{func() { r.Bytes(2) }, 3},
		{func() { r.Bytes(0) }, 3},
		{func() { r.U32() }, 6},
		{func() { r.U64() }, 8},
		{func() { r.Count(3) }, 10},
		{func() { r.S32() }, 11},
		{func() { r.S33() }, 13},
		{func() { r.S64() }, 16},
		{func() { r.Sized() }, 19},
	} {
		c.read()
		if n, e := r.Stop(); n != c.want || e != api.OK {
			t.Errorf("behind read %d: %d bytes, error %d, want %d", i, n, e, c.want)
		}
	}
	if left := r.Left(); left != 2 {
		t.Errorf("%d bytes left", left)
	}
	r.Bytes(3)
	if n, e := r.Stop(); n != 0 || e != api.ErrShort {
		t.Errorf("behind an error: %d bytes, error %d", n, e)
	}
}
