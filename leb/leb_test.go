package leb_test

import (
	"bytes"
	"fmt"
	"math"
	"math/big"
	"testing"

	"cloakroom/api"
	"cloakroom/leb"
	"cloakroom/probe"
)

// reader is one of the five, its number made wide enough for all of them.
type reader struct {
	name   string
	bits   int
	signed bool
	read   func(b []byte) (*big.Int, int, api.Errno)
}

func readers() []reader {
	return []reader{
		{"U32", 32, false, func(b []byte) (*big.Int, int, api.Errno) {
			v, n, e := leb.U32(b)
			return big.NewInt(int64(v)), n, e
		}},
		{"U64", 64, false, func(b []byte) (*big.Int, int, api.Errno) {
			v, n, e := leb.U64(b)
			return new(big.Int).SetUint64(v), n, e
		}},
		{"S32", 32, true, func(b []byte) (*big.Int, int, api.Errno) {
			v, n, e := leb.S32(b)
			return big.NewInt(int64(v)), n, e
		}},
		{"S33", 33, true, func(b []byte) (*big.Int, int, api.Errno) {
			v, n, e := leb.S33(b)
			return big.NewInt(v), n, e
		}},
		{"S64", 64, true, func(b []byte) (*big.Int, int, api.Errno) {
			v, n, e := leb.S64(b)
			return big.NewInt(v), n, e
		}},
	}
}

func power(n int) *big.Int { return new(big.Int).Lsh(big.NewInt(1), uint(n)) }

// least and greatest bound the numbers that r can tell.
func (r reader) least() *big.Int {
	if !r.signed {
		return new(big.Int)
	}
	return new(big.Int).Neg(power(r.bits - 1))
}

func (r reader) greatest() *big.Int {
	bits := r.bits
	if r.signed {
		bits--
	}
	return new(big.Int).Sub(power(bits), big.NewInt(1))
}

// has tells whether r can tell v.
func (r reader) has(v *big.Int) bool {
	return v.Cmp(r.least()) >= 0 && v.Cmp(r.greatest()) <= 0
}

// longest is ceil(bits / 7).
func (r reader) longest() int { return (r.bits + 6) / 7 }

// expect works the answer out by the chapter's words, with numbers that have no end: bits beyond N that may not be make the number one that N bits do not hold.
func (r reader) expect(b []byte) (*big.Int, int, api.Errno) {
	v := new(big.Int)
	for i, c := range b {
		if i == r.longest() {
			break
		}
		group := big.NewInt(int64(c & 0x7f))
		v.Or(v, group.Lsh(group, uint(7*i)))
		ends := c&0x80 == 0
		if r.signed && c&0x40 != 0 && (ends || i == r.longest()-1) {
			v.Sub(v, power(7*(i+1)))
		}
		if i == r.longest()-1 && (!ends || !r.has(v)) {
			return new(big.Int), 0, api.ErrForm
		}
		if ends {
			return v, i + 1, api.OK
		}
	}
	return new(big.Int), 0, api.ErrShort
}

// shortest writes v by the chapter's words: the first of the writings of 1, 2, 3 .. bytes that has room for v.
func shortest(v *big.Int, signed bool) []byte {
	for n := 1; ; n++ {
		r := reader{bits: 7 * n, signed: signed}
		if r.has(v) {
			return longer(v, n)
		}
	}
}

// longer writes v in just n bytes.
func longer(v *big.Int, n int) []byte {
	var b []byte
	for i := range n {
		group := new(big.Int).Rsh(v, uint(7*i))
		c := byte(group.And(group, big.NewInt(0x7f)).Uint64())
		if i < n-1 {
			c |= 0x80
		}
		b = append(b, c)
	}
	return b
}

// edges are the numbers beside every power of two, with both signs, and what lies beyond every reader.
func edges() []*big.Int {
	var l []*big.Int
	for n := range 66 {
		for _, d := range []int64{-2, -1, 0, 1, 2} {
			v := new(big.Int).Add(power(n), big.NewInt(d))
			l = append(l, v, new(big.Int).Neg(v))
		}
	}
	return l
}

// behinds are bytes that may stand behind a number.
func behinds() [][]byte {
	return [][]byte{nil, {0x00}, {0x7f}, {0x80}, {0xff}, {0x80, 0x80, 0x80}, bytes.Repeat([]byte{0xff}, 20)}
}

func holds(r reader, b []byte) error {
	in, same := probe.Handed(b)
	v, n, e := r.read(in)
	wantV, wantN, wantE := r.expect(b)
	if v.Cmp(wantV) != 0 || n != wantN || e != wantE {
		return fmt.Errorf("%s(%x): %d, %d bytes, error %d; want %d, %d bytes, error %d", r.name, b, v, n, e, wantV, wantN, wantE)
	}
	if !same() {
		return fmt.Errorf("%s(%x) changed what it was handed", r.name, b)
	}
	return nil
}

func TestPutUWrites(t *testing.T) {
	cases := []struct {
		v    uint64
		want string
	}{
		{0, "\x00"},
		{1, "\x01"},
		{127, "\x7f"},
		{128, "\x80\x01"},
		{16383, "\xff\x7f"},
		{16384, "\x80\x80\x01"},
		{624485, "\xe5\x8e\x26"},
		{math.MaxUint32, "\xff\xff\xff\xff\x0f"},
		{1 << 63, "\x80\x80\x80\x80\x80\x80\x80\x80\x80\x01"},
		{math.MaxUint64, "\xff\xff\xff\xff\xff\xff\xff\xff\xff\x01"},
	}
	for _, c := range cases {
		if got := leb.PutU(nil, c.v); string(got) != c.want {
			t.Errorf("PutU(nil, %d): %x, want %x", c.v, got, c.want)
		}
	}
}

func TestPutSWrites(t *testing.T) {
	cases := []struct {
		v    int64
		want string
	}{
		{0, "\x00"},
		{1, "\x01"},
		{-1, "\x7f"},
		{63, "\x3f"},
		{64, "\xc0\x00"},
		{-64, "\x40"},
		{-65, "\xbf\x7f"},
		{128, "\x80\x01"},
		{-128, "\x80\x7f"},
		{-123456, "\xc0\xbb\x78"},
		{math.MaxInt32, "\xff\xff\xff\xff\x07"},
		{math.MinInt32, "\x80\x80\x80\x80\x78"},
		{math.MaxInt64, "\xff\xff\xff\xff\xff\xff\xff\xff\xff\x00"},
		{math.MinInt64, "\x80\x80\x80\x80\x80\x80\x80\x80\x80\x7f"},
	}
	for _, c := range cases {
		if got := leb.PutS(nil, c.v); string(got) != c.want {
			t.Errorf("PutS(nil, %d): %x, want %x", c.v, got, c.want)
		}
	}
}

func TestPutsWriteTheShortest(t *testing.T) {
	for v := int64(-70000); v <= 70000; v++ {
		putsTheShortest(t, big.NewInt(v))
	}
	for _, v := range edges() {
		putsTheShortest(t, v)
	}
}

func putsTheShortest(t *testing.T, v *big.Int) {
	if v.IsUint64() {
		if got := leb.PutU(nil, v.Uint64()); !bytes.Equal(got, shortest(v, false)) {
			t.Errorf("PutU(nil, %d): %x, want %x", v, got, shortest(v, false))
		}
	}
	if v.IsInt64() {
		if got := leb.PutS(nil, v.Int64()); !bytes.Equal(got, shortest(v, true)) {
			t.Errorf("PutS(nil, %d): %x, want %x", v, got, shortest(v, true))
		}
	}
}

// puts are both of them, of some number that needs as many bytes as there are.
func puts() map[string]func(b []byte) []byte {
	l := map[string]func(b []byte) []byte{}
	for n := range 10 {
		u, s := uint64(1)<<(7*n), int64(-1)<<(7*n)
		l[fmt.Sprintf("PutU %d", u)] = func(b []byte) []byte { return leb.PutU(b, u) }
		l[fmt.Sprintf("PutS %d", s)] = func(b []byte) []byte { return leb.PutS(b, s) }
	}
	return l
}

func TestPutsStandBehindWhatIsThere(t *testing.T) {
	for name, put := range puts() {
		alone := put(nil)
		if got := put([]byte{}); !bytes.Equal(got, alone) {
			t.Errorf("%s behind an empty list: %x, want %x", name, got, alone)
		}
		for _, front := range [][]byte{{0x00}, {0x80}, {0xff, 0xff}, bytes.Repeat([]byte{1, 2, 3}, 400)} {
			if got, want := put(front), append(bytes.Clone(front), alone...); !bytes.Equal(got, want) {
				t.Errorf("%s behind %x: %x, want %x", name, front, got, want)
			}
		}
	}
}

func TestPutsLeaveWhatIsHandedIn(t *testing.T) {
	for name, put := range puts() {
		for _, front := range [][]byte{{}, {7}, {7, 8, 9}} {
			in, same := probe.Handed(front)
			got := put(in)
			if !same() {
				t.Fatalf("%s changed what it was handed, or its spare room", name)
			}
			for i := range got {
				got[i] ^= 0xff
			}
			_ = append(got, 0x5a)
			if !same() {
				t.Fatalf("%s answers memory that it was handed", name)
			}
		}
	}
}

func TestPutsAnswerNewMemoryEachTime(t *testing.T) {
	for name, put := range puts() {
		in, _ := probe.Handed([]byte{7, 8})
		first, second := put(in), put(in)
		before := bytes.Clone(second)
		for i := range first {
			first[i] ^= 0xff
		}
		if !bytes.Equal(second, before) {
			t.Errorf("%s: two answers share memory", name)
		}
	}
}

func TestReadersTellNumbers(t *testing.T) {
	cases := []struct{ name, b, want string }{
		{"U32", "\x00", "0"},
		{"U32", "\x80\x00", "0"},
		{"U32", "\x80\x80\x80\x80\x00", "0"},
		{"U32", "\xe5\x8e\x26", "624485"},
		{"U32", "\xff\xff\xff\xff\x0f", "4294967295"},
		{"U64", "\x80\x80\x80\x80\x80\x80\x80\x80\x80\x00", "0"},
		{"U64", "\xff\xff\xff\xff\x7f", "34359738367"},
		{"U64", "\xff\xff\xff\xff\xff\xff\xff\xff\xff\x01", "18446744073709551615"},
		{"S32", "\x7f", "-1"},
		{"S32", "\xff\x7f", "-1"},
		{"S32", "\xff\xff\xff\xff\x7f", "-1"},
		{"S32", "\x80\x80\x80\x80\x00", "0"},
		{"S32", "\xff\x00", "127"},
		{"S32", "\xff\xff\xff\xff\x07", "2147483647"},
		{"S32", "\x80\x80\x80\x80\x78", "-2147483648"},
		{"S33", "\x40", "-64"},
		{"S33", "\xff\xff\xff\xff\x0f", "4294967295"},
		{"S33", "\x80\x80\x80\x80\x70", "-4294967296"},
		{"S64", "\xff\xff\xff\xff\x0f", "4294967295"},
		{"S64", "\xff\xff\xff\xff\xff\xff\xff\xff\xff\x7f", "-1"},
		{"S64", "\xff\xff\xff\xff\xff\xff\xff\xff\xff\x00", "9223372036854775807"},
		{"S64", "\x80\x80\x80\x80\x80\x80\x80\x80\x80\x7f", "-9223372036854775808"},
	}
	for _, r := range readers() {
		for _, c := range cases {
			if c.name != r.name {
				continue
			}
			if v, n, e := r.read([]byte(c.b)); v.String() != c.want || n != len(c.b) || e != api.OK {
				t.Errorf("%s(%x): %d, %d bytes, error %d; want %s", r.name, c.b, v, n, e, c.want)
			}
		}
	}
}

func TestReadersTellErrors(t *testing.T) {
	cases := []struct {
		name, b string
		want    api.Errno
	}{
		{"U32", "\x80\x80\x80\x80", api.ErrShort},
		{"U32", "\xff\xff\xff\xff\x10", api.ErrForm},
		{"U32", "\xff\xff\xff\xff\x1f", api.ErrForm},
		{"U32", "\x80\x80\x80\x80\x40", api.ErrForm},
		{"U32", "\x80\x80\x80\x80\x80", api.ErrForm},
		{"U32", "\x80\x80\x80\x80\x80\x00", api.ErrForm},
		{"U64", "\xff\xff\xff\xff\xff\xff\xff\xff\xff", api.ErrShort},
		{"U64", "\x80\x80\x80\x80\x80\x80\x80\x80\x80\x02", api.ErrForm},
		{"U64", "\x80\x80\x80\x80\x80\x80\x80\x80\x80\x80", api.ErrForm},
		{"S32", "\xff\xff\xff\xff", api.ErrShort},
		{"S32", "\xff\xff\xff\xff\x0f", api.ErrForm},
		{"S32", "\x80\x80\x80\x80\x08", api.ErrForm},
		{"S32", "\x80\x80\x80\x80\x70", api.ErrForm},
		{"S32", "\xff\xff\xff\xff\x3f", api.ErrForm},
		{"S32", "\xff\xff\xff\xff\xff", api.ErrForm},
		{"S33", "\xff\xff\xff\xff", api.ErrShort},
		{"S33", "\xff\xff\xff\xff\x1f", api.ErrForm},
		{"S33", "\x80\x80\x80\x80\x10", api.ErrForm},
		{"S33", "\x80\x80\x80\x80\x60", api.ErrForm},
		{"S33", "\xff\xff\xff\xff\xff", api.ErrForm},
		{"S64", "\xff\xff\xff\xff\xff\xff\xff\xff\xff", api.ErrShort},
		{"S64", "\xff\xff\xff\xff\xff\xff\xff\xff\xff\x01", api.ErrForm},
		{"S64", "\x80\x80\x80\x80\x80\x80\x80\x80\x80\x7e", api.ErrForm},
		{"S64", "\xff\xff\xff\xff\xff\xff\xff\xff\xff\xff", api.ErrForm},
	}
	for _, r := range readers() {
		for _, c := range cases {
			if c.name != r.name {
				continue
			}
			if v, n, e := r.read([]byte(c.b)); v.Sign() != 0 || n != 0 || e != c.want {
				t.Errorf("%s(%x): %d, %d bytes, error %d; want error %d alone", r.name, c.b, v, n, e, c.want)
			}
		}
		for _, b := range [][]byte{nil, {}} {
			if v, n, e := r.read(b); v.Sign() != 0 || n != 0 || e != api.ErrShort {
				t.Errorf("%s of nothing: %d, %d bytes, error %d", r.name, v, n, e)
			}
		}
	}
}

// TestReadersHold holds the readers against the chapter's words: all of up to two bytes, and each byte behind fronts of every length, alone and with bytes behind it.
func TestReadersHold(t *testing.T) {
	check := func(b []byte) {
		for _, r := range readers() {
			if err := holds(r, b); err != nil {
				t.Error(err)
			}
		}
	}
	check(nil)
	for c := range 256 {
		check([]byte{byte(c)})
		for d := range 256 {
			check([]byte{byte(c), byte(d)})
		}
	}
	for _, fill := range []byte{0x80, 0x81, 0xaa, 0xc0, 0xd5, 0xff} {
		for length := range 13 {
			for c := range 256 {
				b := append(bytes.Repeat([]byte{fill}, length), byte(c))
				for _, behind := range behinds() {
					check(append(bytes.Clone(b), behind...))
				}
			}
		}
	}
}

func TestLongerWritingsAreNumbers(t *testing.T) {
	for _, r := range readers() {
		for _, v := range edges() {
			if !r.has(v) {
				continue
			}
			for n := len(shortest(v, r.signed)); n <= r.longest(); n++ {
				b := longer(v, n)
				if got, m, e := r.read(b); got.Cmp(v) != 0 || m != n || e != api.OK {
					t.Errorf("%s(%x): %d, %d bytes, error %d; want %d", r.name, b, got, m, e, v)
				}
			}
			b := longer(v, r.longest()+1)
			if got, m, e := r.read(b); got.Sign() != 0 || m != 0 || e != api.ErrForm {
				t.Errorf("%s(%x): %d, %d bytes, error %d; want error %d alone", r.name, b, got, m, e, api.ErrForm)
			}
		}
	}
}

// TestWhatIsPutIsRead reads back what was put, whatever stands behind it; what no reader can tell, and what is cut, is no number.
func TestWhatIsPutIsRead(t *testing.T) {
	for _, r := range readers() {
		for _, v := range edges() {
			put, ok := putFor(r, v)
			if !ok {
				continue
			}
			if !r.has(v) {
				if got, n, e := r.read(put); got.Sign() != 0 || n != 0 || e != api.ErrForm {
					t.Errorf("%s(%x), of %d: %d, %d bytes, error %d; want error %d alone", r.name, put, v, got, n, e, api.ErrForm)
				}
				continue
			}
			for _, behind := range behinds() {
				b := append(bytes.Clone(put), behind...)
				if got, n, e := r.read(b); got.Cmp(v) != 0 || n != len(put) || e != api.OK {
					t.Errorf("%s(%x): %d, %d bytes, error %d; want %d, %d bytes", r.name, b, got, n, e, v, len(put))
				}
			}
			for n := range put {
				if got, m, e := r.read(put[:n]); got.Sign() != 0 || m != 0 || e != api.ErrShort {
					t.Errorf("%s(%x): %d, %d bytes, error %d; want error %d alone", r.name, put[:n], got, m, e, api.ErrShort)
				}
			}
		}
	}
}

// putFor puts v by the put that belongs to r, if that takes v.
func putFor(r reader, v *big.Int) ([]byte, bool) {
	if r.signed {
		return leb.PutS(nil, v.Int64()), v.IsInt64()
	}
	return leb.PutU(nil, v.Uint64()), v.IsUint64()
}
