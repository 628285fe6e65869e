package req_test

import (
	"bytes"
	"fmt"
	"reflect"
	"slices"
	"strings"
	"testing"

	"cloakroom/api"
	"cloakroom/leb"
	"cloakroom/probe"
	"cloakroom/req"
)

const (
	token  = "\x01\x02\x03\x04\x05\x06\x07\x08"
	number = 0x0102030405060708
	most   = "\xff\xff\xff\xff\xff\xff\xff\xff\xff\x01" // 2^64 - 1, of leb
)

// ones answers so many numbers of 1, and their bytes.
func ones(n int) (list []uint64, b string) {
	return slices.Repeat([]uint64{1}, n), strings.Repeat("\x01", n)
}

// asked is a request, and its bytes by the chapter's words.
type asked struct {
	bytes string
	r     api.Request
}

// requests are within all limits: each of them is put, and taken.
func requests() []asked {
	long := strings.Repeat("n", api.MaxName)
	args, argBytes := ones(api.MaxArity)
	return []asked{
		{"\x01\x00\x00\x00\x00\x00\x00\x00\x00", api.Request{Kind: api.AskUpload}},
		{"\x01" + token + "\x00asm\x00", api.Request{Kind: api.AskUpload, Token: number, Body: []byte("\x00asm\x00")}},
		{"\x01" + token + strings.Repeat("b", api.MaxFrame), api.Request{Kind: api.AskUpload, Token: number, Body: bytes.Repeat([]byte("b"), api.MaxFrame)}},
		{"\x02\x00\x00\x00\x00\x00\x00\x00\x00\x00\x00", api.Request{Kind: api.AskMake}},
		{"\x02" + token + "\xac\x02\x03abc", api.Request{Kind: api.AskMake, Token: number, Handle: 300, Name: "abc"}},
		{"\x02\xff\xff\xff\xff\xff\xff\xff\xff" + most + "\x20" + long, api.Request{Kind: api.AskMake, Token: 1<<64 - 1, Handle: 1<<64 - 1, Name: long}},
		{"\x03\x00\x00\x00\x00\x00\x00\x00\x01\x00", api.Request{Kind: api.AskOpen, Token: 1}},
		{"\x03" + token + "\x01a", api.Request{Kind: api.AskOpen, Token: number, Name: "a"}},
		{"\x03" + token + "\x04\xff\x00\x80\xc3", api.Request{Kind: api.AskOpen, Token: number, Name: "\xff\x00\x80\xc3"}},
		{"\x03\x80\x00\x00\x00\x00\x00\x00\x00\x20" + long, api.Request{Kind: api.AskOpen, Token: 1 << 63, Name: long}},
		{"\x04\x00\x00\x00\x00\x00\x00\x00\x00\x00\x00\x00\x00", api.Request{Kind: api.AskInvoke}},
		{"\x04" + token + "\x05\x01f\x02\x00\x80\x01\x09", api.Request{Kind: api.AskInvoke, Token: number, Handle: 5, Name: "f", Args: []uint64{0, 128}, Ticks: 9}},
		{"\x04" + token + "\x05\x01f\x00\x80\x01", api.Request{Kind: api.AskInvoke, Token: number, Handle: 5, Name: "f", Ticks: 128}},
		{"\x04" + token + "\x7f\x00\x03\x03\x02\x01\x00", api.Request{Kind: api.AskInvoke, Token: number, Handle: 127, Args: []uint64{3, 2, 1}}},
		{"\x04" + token + most + "\x20" + long + "\x08" + argBytes + most, api.Request{Kind: api.AskInvoke, Token: number, Handle: 1<<64 - 1, Name: long, Args: args, Ticks: 1<<64 - 1}},
		{"\x04" + token + "\x00\x00\x02" + most + most + "\x00", api.Request{Kind: api.AskInvoke, Token: number, Args: []uint64{1<<64 - 1, 1<<64 - 1}}},
		{"\x05\x00\x00\x00\x00\x00\x00\x00\x00\x03", api.Request{Kind: api.AskClose, Handle: 3}},
		{"\x05" + token + "\x80\x01", api.Request{Kind: api.AskClose, Token: number, Handle: 128}},
		{"\x05" + token + most, api.Request{Kind: api.AskClose, Token: number, Handle: 1<<64 - 1}},
		{"\x06\x00\x00\x00\x00\x00\x00\x00\x00\x00\x00\x00\x00\x00\x00\x00\x00", api.Request{Kind: api.AskCancel}},
		{"\x06" + token + "\xf0\xe0\xd0\xc0\xb0\xa0\x90\x80", api.Request{Kind: api.AskCancel, Token: number, Other: 0xf0e0d0c0b0a09080}},
	}
}

// alike holds all fields against each other, without the program's help; nil and empty are one.
func alike[T any](a, b T) bool {
	text := func(v T) string { return strings.ReplaceAll(fmt.Sprintf("%#v", v), "(nil)", "{}") }
	return reflect.DeepEqual(a, b) || text(a) == text(b)
}

func TestPutWritesWhatTheKindHas(t *testing.T) {
	for _, c := range requests() {
		if got := req.Put(c.r); string(got) != c.bytes {
			t.Errorf("Put(%v): %q, want %q", c.r, got, c.bytes)
		}
	}
}

func TestPutLeavesOutWhatTheKindHasNot(t *testing.T) {
	full := api.Request{Token: number, Handle: 5, Name: "nm", Body: []byte("body"), Args: []uint64{6, 7}, Ticks: 8, Other: 9}
	for kind, want := range map[int]string{
		api.AskUpload: "body",
		api.AskMake:   "\x05\x02nm",
		api.AskOpen:   "\x02nm",
		api.AskInvoke: "\x05\x02nm\x02\x06\x07\x08",
		api.AskClose:  "\x05",
		api.AskCancel: "\x00\x00\x00\x00\x00\x00\x00\x09",
	} {
		full.Kind = kind
		want = string(rune(kind)) + token + want
		if got := req.Put(full); string(got) != want {
			t.Errorf("kind %d: %q, want %q", kind, got, want)
		}
	}
}

// TestPutGoesBeyondWhatIsTaken: Put has wider limits than Take.
func TestPutGoesBeyondWhatIsTaken(t *testing.T) {
	for size, length := range map[int]string{33: "\x21", 127: "\x7f", 128: "\x80\x01", 255: "\xff\x01"} {
		name := strings.Repeat("x", size)
		for head, r := range map[string]api.Request{
			"\x03" + token:          {Kind: api.AskOpen, Token: number, Name: name},
			"\x02" + token + "\x07": {Kind: api.AskMake, Token: number, Handle: 7, Name: name},
		} {
			got := req.Put(r)
			if want := head + length + name; string(got) != want {
				t.Errorf("a name of %d bytes: %q", size, got)
			}
			if _, e := req.Take(got); e != api.ErrLong {
				t.Errorf("a name of %d bytes is taken: error %d", size, e)
			}
		}
	}
	for size, length := range map[int]string{9: "\x09", 127: "\x7f", 128: "\x80\x01", 300: "\xac\x02"} {
		args, argBytes := ones(size)
		got := req.Put(api.Request{Kind: api.AskInvoke, Token: number, Handle: 7, Name: "f", Args: args, Ticks: 3})
		if want := "\x04" + token + "\x07\x01f" + length + argBytes + "\x03"; string(got) != want {
			t.Errorf("%d args: %q", size, got)
		}
		if _, e := req.Take(got); e != api.ErrLong {
			t.Errorf("%d args are taken: error %d", size, e)
		}
	}
}

func TestWhatIsPutIsTaken(t *testing.T) {
	for _, c := range requests() {
		if got, e := req.Take(req.Put(c.r)); !alike(got, c.r) || e != api.OK || !req.Same(got, c.r) {
			t.Errorf("%q: %v, error %d, want %v", c.bytes, got, e, c.r)
		}
		if got, e := req.Take([]byte(c.bytes)); !alike(got, c.r) || e != api.OK {
			t.Errorf("Take(%q): %v, error %d, want %v", c.bytes, got, e, c.r)
		}
	}
}

func TestTakeReadsLongerNumbers(t *testing.T) {
	for in, want := range map[string]api.Request{
		"\x02" + token + "\x83\x80\x00\x82\x80\x80\x80\x00ab":                                       {Kind: api.AskMake, Token: number, Handle: 3, Name: "ab"},
		"\x04" + token + "\x80\x80\x80\x80\x80\x80\x80\x80\x80\x00\x80\x00\x81\x00\x85\x00\x86\x00": {Kind: api.AskInvoke, Token: number, Args: []uint64{5}, Ticks: 6},
		"\x05" + token + "\xff\x00":                                                                 {Kind: api.AskClose, Token: number, Handle: 127},
	} {
		if got, e := req.Take([]byte(in)); !alike(got, want) || e != api.OK {
			t.Errorf("Take(%q): %v, error %d", in, got, e)
		}
	}
}

// refused asks that in is no request, and that nothing is told beside the error.
func refused(t *testing.T, in string, want api.Errno) {
	t.Helper()
	if got, e := req.Take([]byte(in)); e != want || !reflect.DeepEqual(got, api.Request{}) {
		t.Errorf("Take(%.60q): %v, error %d, want %d", in, got, e, want)
	}
}

func TestTakeTellsAKindThatIsNone(t *testing.T) {
	for kind := range 256 {
		if kind >= 1 && kind <= 6 {
			continue
		}
		for _, rest := range []string{"", "\x00", token, token + "\x00", token + token} {
			refused(t, string([]byte{byte(kind)})+rest, api.ErrForm)
		}
	}
}

func TestTakeTellsBytesThatEndTooSoon(t *testing.T) {
	refused(t, "", api.ErrShort)
	for _, c := range requests() {
		for n := range c.bytes {
			if c.r.Kind == api.AskUpload && n >= 9 {
				break
			}
			refused(t, c.bytes[:n], api.ErrShort)
		}
	}
}

func TestTakeTellsBytesBehind(t *testing.T) {
	for _, c := range requests() {
		if c.r.Kind == api.AskUpload {
			continue
		}
		for _, behind := range []string{"\x00", "\x80", "\xff", "\x00\x00", token} {
			refused(t, c.bytes+behind, api.ErrForm)
		}
	}
}

func TestTakeTellsErrorsAsTheyAreMet(t *testing.T) {
	const over32, over64 = "\xff\xff\xff\xff\x1f", "\xff\xff\xff\xff\xff\xff\xff\xff\xff\x02"
	open, invoke := "\x03"+token, "\x04"+token
	name33, name32 := "\x21"+strings.Repeat("n", 33), "\x20"+strings.Repeat("n", 32)
	for in, want := range map[string]api.Errno{
		// a name that is too long, whatever is behind its length
		open + "\x21":                              api.ErrLong,
		open + name33:                              api.ErrLong,
		open + name33 + "more":                     api.ErrLong,
		open + "\xa1\x00":                          api.ErrLong,
		open + "\xff\xff\xff\xff\x0f":              api.ErrLong,
		open + "\x80\x80\x80\x80\x08":              api.ErrLong,
		open + name32:                              api.OK,
		open + name32[:32]:                         api.ErrShort,
		"\x02" + token + "\x01" + "\x21":           api.ErrLong,
		invoke + "\x01" + "\x21":                   api.ErrLong,
		invoke + "\x01" + name33 + "\x09":          api.ErrLong,
		invoke + "\x01" + name32 + "\x00" + "\x00": api.OK,
		// too many args, whatever is behind how many
		invoke + "\x01\x00\x09":                                 api.ErrLong,
		invoke + "\x01\x00\x09" + strings.Repeat("\x00", 10):    api.ErrLong,
		invoke + "\x01\x00\x09" + over64:                        api.ErrLong,
		invoke + "\x01\x00\x89\x00":                             api.ErrLong,
		invoke + "\x01\x00\xff\xff\xff\xff\x0f":                 api.ErrLong,
		invoke + "\x01\x00\x80\x80\x80\x80\x08":                 api.ErrLong,
		invoke + "\x01\x00\x08" + strings.Repeat("\x00", 9):     api.OK,
		invoke + "\x01\x00\x08" + strings.Repeat("\x00", 8):     api.ErrShort,
		invoke + "\x01\x00\x08\x00\x00" + over64:                api.ErrForm,
		invoke + "\x01\x00\x08\x00\x00\x80":                     api.ErrShort,
		invoke + "\x01\x05abcd\x09":                             api.ErrShort,
		invoke + "\x01\x05abcd" + "\x09" + "\x09":               api.ErrLong,
		invoke + over64 + "\x21":                                api.ErrForm,
		invoke + "\x80\x80\x80\x80\x80\x80\x80\x80\x80\x80\x00": api.ErrForm,
		invoke + "\x80":                                         api.ErrShort,
		// numbers of 64 bits, lengths and how many of 32
		"\x02" + token + over64:                            api.ErrForm,
		"\x02" + token + over32 + "\x00":                   api.OK,
		"\x02" + token + "\x01" + over32:                   api.ErrForm,
		"\x02" + token + "\x01" + over32 + "n":             api.ErrForm,
		"\x05" + token + over64:                            api.ErrForm,
		"\x05" + token + over32:                            api.OK,
		open + over32:                                      api.ErrForm,
		open + "\x80\x80\x80\x80\x80\x00":                  api.ErrForm,
		open + "\xff\xff\xff\xff\x7f":                      api.ErrForm,
		open + "\x80\x80\x80\x80":                          api.ErrShort,
		invoke + "\x01\x00" + over32:                       api.ErrForm,
		invoke + "\x01\x00\x00" + over32:                   api.OK,
		invoke + "\x01\x00\x00" + over64:                   api.ErrForm,
		invoke + "\x01\x00\x01" + over64 + "\x00":          api.ErrForm,
		invoke + "\x01\x00\x01" + over32 + over32:          api.OK,
		invoke + "\x01\x00\x01" + over32 + over32 + "\x00": api.ErrForm,
	} {
		if want != api.OK {
			refused(t, in, want)
		} else if got, e := req.Take([]byte(in)); e != api.OK || got.Kind != int(in[0]) || got.Token != number {
			t.Errorf("Take(%.60q): %v, error %d", in, got, e)
		}
	}
}

// expect works out by the chapter's words what Take answers: the parts of a kind stand in a row, and the first that is not there tells why.
func expect(b []byte) (r api.Request, e api.Errno) {
	if len(b) == 0 {
		return api.Request{}, api.ErrShort
	}
	parts := map[byte]string{1: "tB", 2: "tHN", 3: "tN", 4: "tHNAT", 5: "tH", 6: "tO"}[b[0]]
	if parts == "" {
		return api.Request{}, api.ErrForm
	}
	r.Kind = int(b[0])
	at := 1
	for _, part := range parts {
		n, e := expectPart(&r, part, b[at:])
		if e != api.OK {
			return api.Request{}, e
		}
		at += n
	}
	if at < len(b) {
		return api.Request{}, api.ErrForm
	}
	return r, api.OK
}

func expectPart(r *api.Request, part rune, b []byte) (n int, e api.Errno) {
	switch part {
	case 't', 'O':
		if len(b) < 8 {
			return 0, api.ErrShort
		}
		var v uint64
		for i := range 8 {
			v += uint64(b[i]) << (56 - 8*i)
		}
		if part == 't' {
			r.Token = v
		} else {
			r.Other = v
		}
		return 8, api.OK
	case 'B':
		r.Body = b
		return len(b), api.OK
	case 'H':
		r.Handle, n, e = leb.U64(b)
	case 'T':
		r.Ticks, n, e = leb.U64(b)
	case 'N':
		size, n, e := leb.U32(b)
		switch {
		case e != api.OK:
			return 0, e
		case size > 32:
			return 0, api.ErrLong
		case n+int(size) > len(b):
			return 0, api.ErrShort
		}
		r.Name = string(b[n : n+int(size)])
		return n + int(size), api.OK
	case 'A':
		r.Args, n, e = expectList(b)
	}
	return n, e
}

func expectList(b []byte) (list []uint64, n int, e api.Errno) {
	size, n, e := leb.U32(b)
	if e == api.OK && size > 8 {
		e = api.ErrLong
	}
	for i := uint32(0); e == api.OK && i < size; i++ {
		v, more, wrong := leb.U64(b[n:])
		list, n, e = append(list, v), n+more, wrong
	}
	return list, n, e
}

// TestTakeOfAllShortTails: whatever stands behind a token.
func TestTakeOfAllShortTails(t *testing.T) {
	for kind := byte(1); kind <= 6; kind++ {
		probe.Rows("\x00\x01\x02\x08\x09\x20\x21\x80\xff", 5, func(tail []byte) {
			b := append(append([]byte{kind}, token...), tail...)
			got, e := req.Take(b)
			want, wantE := expect(b)
			if e != wantE || !alike(got, want) {
				t.Fatalf("Take(%q): %v, error %d, want %v, error %d", b, got, e, want, wantE)
			}
			if e == api.OK {
				if again, e := req.Take(req.Put(got)); e != api.OK || !req.Same(again, got) {
					t.Fatalf("what is taken of %q, put and taken: %v, error %d", b, again, e)
				}
			}
		})
	}
}

// TestTakeOfOneOtherByte changes each byte of what is one to all others.
func TestTakeOfOneOtherByte(t *testing.T) {
	for _, c := range requests() {
		if len(c.bytes) > 100 {
			continue
		}
		for i := range len(c.bytes) {
			for v := range 256 {
				b := []byte(c.bytes)
				b[i] = byte(v)
				got, e := req.Take(b)
				if want, wantE := expect(b); e != wantE || !alike(got, want) {
					t.Fatalf("Take(%q): %v, error %d, want %v, error %d", b, got, e, want, wantE)
				}
			}
		}
	}
}

func TestPutLeavesWhatIsHandedIn(t *testing.T) {
	for _, c := range requests() {
		body, bodyUnchanged := probe.Handed(c.r.Body)
		args, argsUnchanged := probe.Handed(c.r.Args)
		r := c.r
		r.Body, r.Args = body, args
		first, second := req.Put(r), req.Put(r)
		probe.Scribble(first)
		if !bodyUnchanged() || !argsUnchanged() {
			t.Errorf("%q: what was handed in is changed, or told", c.bytes)
		}
		if string(second) != c.bytes {
			t.Errorf("%q: two answers share memory", c.bytes)
		}
	}
}

func TestTakeLeavesAndKeepsNothingOfWhatIsHandedIn(t *testing.T) {
	for _, c := range requests() {
		in, unchanged := probe.Handed([]byte(c.bytes))
		first, _ := req.Take(in)
		second, _ := req.Take(in)
		probe.Scribble(first.Body)
		probe.Scribble(first.Args)
		if !unchanged() {
			t.Errorf("%q: what was handed in is changed, or told", c.bytes)
		}
		probe.Scribble(in)
		if !alike(second, c.r) {
			t.Errorf("%q: what is told shares memory: %v", c.bytes, second)
		}
	}
}

// told is a reply, and its bytes by the chapter's words.
type told struct {
	bytes string
	r     api.Reply
}

// replies are within all limits: each of them is put, and taken.
func replies() []told {
	values, valueBytes := ones(api.MaxArity)
	list := []told{
		{"\x00\x00\x00\x00\x00\x00\x00\x00\x00\x00\x00", api.Reply{}},
		{"\x00\x00\x00\x00\x00\x00\x00\x01\x00\x00\x00", api.Reply{Token: 1}},
		{"\x80\x00\x00\x00\x00\x00\x00\x00\x00\x00\x00", api.Reply{Token: 1 << 63}},
		{token + "\x00\x03\x00", api.Reply{Token: number, Handle: 3}},
		{token + "\x00\xac\x02\x00", api.Reply{Token: number, Handle: 300}},
		{token + "\x00\x00\x01\x00", api.Reply{Token: number, Values: []uint64{0}}},
		{token + "\x00\x00\x03\x03\x80\x01\x01", api.Reply{Token: number, Values: []uint64{3, 128, 1}}},
		{token + "\x00" + most + "\x08" + valueBytes, api.Reply{Token: number, Handle: 1<<64 - 1, Values: values}},
		{token + "\x07\xac\x02\x02\x01" + most, api.Reply{Token: number, Err: api.ErrTrap, Handle: 300, Values: []uint64{1, 1<<64 - 1}}},
	}
	for err := api.OK; err <= api.ErrStuck; err++ {
		list = append(list, told{token + string(rune(err)) + "\x00\x00", api.Reply{Token: number, Err: err}})
	}
	return list
}

func TestPutReplyWritesAllOfIt(t *testing.T) {
	for _, c := range replies() {
		if got := req.PutReply(c.r); string(got) != c.bytes {
			t.Errorf("PutReply(%v): %q, want %q", c.r, got, c.bytes)
		}
	}
	values, valueBytes := ones(300)
	got := req.PutReply(api.Reply{Token: number, Handle: 3, Values: values})
	if want := token + "\x00\x03\xac\x02" + valueBytes; string(got) != want {
		t.Errorf("PutReply of 300 values: %q", got)
	}
	if _, e := req.TakeReply(got); e != api.ErrLong {
		t.Errorf("300 values are taken: error %d", e)
	}
}

func TestWhatIsPutOfAReplyIsTaken(t *testing.T) {
	for _, c := range replies() {
		if got, e := req.TakeReply(req.PutReply(c.r)); !alike(got, c.r) || e != api.OK {
			t.Errorf("%q: %v, error %d, want %v", c.bytes, got, e, c.r)
		}
		if got, e := req.TakeReply([]byte(c.bytes)); !alike(got, c.r) || e != api.OK {
			t.Errorf("TakeReply(%q): %v, error %d, want %v", c.bytes, got, e, c.r)
		}
	}
	longer, e := req.TakeReply([]byte(token + "\x01\x83\x80\x00\x82\x80\x80\x80\x00\x85\x00\x06"))
	if want := (api.Reply{Token: number, Err: api.ErrArg, Handle: 3, Values: []uint64{5, 6}}); !alike(longer, want) || e != api.OK {
		t.Errorf("numbers longer than the shortest: %v, error %d", longer, e)
	}
}

// refusedReply asks that in is no reply, and that nothing is told beside the error.
func refusedReply(t *testing.T, in string, want api.Errno) {
	t.Helper()
	if got, e := req.TakeReply([]byte(in)); e != want || !reflect.DeepEqual(got, api.Reply{}) {
		t.Errorf("TakeReply(%.60q): %v, error %d, want %d", in, got, e, want)
	}
}

func TestTakeReplyTellsBytesThatEndTooSoonOrAreBehind(t *testing.T) {
	for _, c := range replies() {
		for n := range c.bytes {
			refusedReply(t, c.bytes[:n], api.ErrShort)
		}
		for _, behind := range []string{"\x00", "\x80", "\xff", "\x00\x00", token} {
			refusedReply(t, c.bytes+behind, api.ErrForm)
		}
	}
}

func TestTakeReplyTellsErrors(t *testing.T) {
	const over32, over64 = "\xff\xff\xff\xff\x1f", "\xff\xff\xff\xff\xff\xff\xff\xff\xff\x02"
	for in, want := range map[string]api.Errno{
		// too many values, whatever is behind how many
		"\x00\x00\x09": api.ErrLong,
		"\x00\x00\x09" + strings.Repeat("\x00", 9):  api.ErrLong,
		"\x00\x00\x09" + strings.Repeat("\x00", 10): api.ErrLong,
		"\x00\x00\x09" + over64:                     api.ErrLong,
		"\x00\x00\x89\x00":                          api.ErrLong,
		"\x00\x00\xff\xff\xff\xff\x0f":              api.ErrLong,
		"\x00\x00\x80\x80\x80\x80\x08":              api.ErrLong,
		// numbers of 64 bits, how many of 32
		"\x00" + over64:                    api.ErrForm,
		"\x00" + over64 + "\x09":           api.ErrForm,
		"\x00\x00" + over32:                api.ErrForm,
		"\x00\x00\x80\x80\x80\x80\x80\x00": api.ErrForm,
		"\x00\x00\x02\x00" + over64:        api.ErrForm,
		"\x00\x00\x02\x00\x80":             api.ErrShort,
		// an Err that is none: named behind all but bytes behind
		"\x12\x00\x00":     api.ErrForm,
		"\x12\x00\x01\x00": api.ErrForm,
		"\x12\x00\x00\x00": api.ErrForm,
		"\x12":             api.ErrShort,
		"\x12\x80":         api.ErrShort,
		"\x12\x00":         api.ErrShort,
		"\x12\x00\x01":     api.ErrShort,
		"\x12\x00\x09":     api.ErrLong,
		"\xff\x00\x02\x00": api.ErrShort,
		"\xff\x00\x09":     api.ErrLong,
		"\xff" + over64:    api.ErrForm,
	} {
		refusedReply(t, token+in, want)
	}
	for err := range 256 {
		if err > int(api.ErrStuck) {
			refusedReply(t, token+string([]byte{byte(err)})+"\x00\x00", api.ErrForm)
		}
	}
	if got, e := req.TakeReply([]byte(token + "\x00" + over32 + "\x01" + over32)); e != api.OK || got.Handle != 1<<33-1 || !slices.Equal(got.Values, []uint64{1<<33 - 1}) {
		t.Errorf("numbers of more than 32 bits: %v, error %d", got, e)
	}
}

// expectReply works out by the chapter's words what TakeReply answers of what stands behind a whole token.
func expectReply(b []byte) (r api.Reply, e api.Errno) {
	if len(b) == 0 {
		return r, api.ErrShort
	}
	r.Token, r.Err = number, api.Errno(b[0])
	handle, n, e := leb.U64(b[1:])
	if e != api.OK {
		return api.Reply{}, e
	}
	values, m, e := expectList(b[1+n:])
	if e == api.OK && (b[0] > 17 || 1+n+m < len(b)) {
		e = api.ErrForm
	}
	if e != api.OK {
		return api.Reply{}, e
	}
	r.Handle, r.Values = handle, values
	return r, api.OK
}

func TestTakeReplyOfAllShortTails(t *testing.T) {
	probe.Rows("\x00\x01\x02\x08\x09\x11\x12\x80\xff", 6, func(tail []byte) {
		b := append([]byte(token), tail...)
		got, e := req.TakeReply(b)
		if want, wantE := expectReply(tail); e != wantE || !alike(got, want) {
			t.Fatalf("TakeReply(%q): %v, error %d, want %v, error %d", b, got, e, want, wantE)
		}
	})
}

func TestRepliesShareNoMemory(t *testing.T) {
	for _, c := range replies() {
		values, valuesUnchanged := probe.Handed(c.r.Values)
		r := c.r
		r.Values = values
		first, second := req.PutReply(r), req.PutReply(r)
		probe.Scribble(first)
		if !valuesUnchanged() || string(second) != c.bytes {
			t.Errorf("PutReply(%v): memory is shared, or changed", c.r)
		}
		in, unchanged := probe.Handed([]byte(c.bytes))
		one, _ := req.TakeReply(in)
		other, _ := req.TakeReply(in)
		probe.Scribble(one.Values)
		if !unchanged() {
			t.Errorf("TakeReply(%q): what was handed in is changed, or told", c.bytes)
		}
		probe.Scribble(in)
		if !alike(other, c.r) {
			t.Errorf("TakeReply(%q): what is told shares memory: %v", c.bytes, other)
		}
	}
}

// others are requests of which no two are the same.
func others() []api.Request {
	full := func(change func(r *api.Request)) api.Request {
		r := api.Request{Kind: 4, Token: 1, Handle: 2, Name: "name", Body: []byte{1, 2}, Args: []uint64{1, 2}, Ticks: 3, Other: 4}
		change(&r)
		return r
	}
	return []api.Request{
		{},
		{Kind: 1}, {Token: 1}, {Handle: 1}, {Name: "\x01"}, {Body: []byte{1}}, {Args: []uint64{1}}, {Ticks: 1}, {Other: 1},
		{Body: []byte{0}}, {Args: []uint64{0}}, {Name: "\x00"},
		full(func(r *api.Request) {}),
		full(func(r *api.Request) { r.Kind = 5 }),
		full(func(r *api.Request) { r.Kind = 4 + 256 }),
		full(func(r *api.Request) { r.Kind = -4 }),
		full(func(r *api.Request) { r.Token = 1 + 1<<32 }),
		full(func(r *api.Request) { r.Handle = 2 + 1<<63 }),
		full(func(r *api.Request) { r.Name = "nam" }),
		full(func(r *api.Request) { r.Name = "name\x00" }),
		full(func(r *api.Request) { r.Name = "Name" }),
		full(func(r *api.Request) { r.Body = nil }),
		full(func(r *api.Request) { r.Body = []byte{1} }),
		full(func(r *api.Request) { r.Body = []byte{2, 1} }),
		full(func(r *api.Request) { r.Body = []byte{1, 2, 0} }),
		full(func(r *api.Request) { r.Args = nil }),
		full(func(r *api.Request) { r.Args = []uint64{1} }),
		full(func(r *api.Request) { r.Args = []uint64{2, 1} }),
		full(func(r *api.Request) { r.Args = []uint64{1, 2, 0} }),
		full(func(r *api.Request) { r.Args = []uint64{1, 2 + 1<<32} }),
		full(func(r *api.Request) { r.Ticks = 0 }),
		full(func(r *api.Request) { r.Ticks = 3 + 1<<40 }),
		full(func(r *api.Request) { r.Other = 0 }),
		full(func(r *api.Request) { r.Other = 4 + 1<<33 }),
	}
}

func TestSameHoldsAllFields(t *testing.T) {
	list, again := others(), others()
	for i, a := range list {
		for j, b := range again {
			if got := req.Same(a, b); got != (i == j) {
				t.Errorf("Same(%v, %v): %t", a, b, got)
			}
		}
	}
	if !req.Same(api.Request{}, api.Request{Body: []byte{}, Args: []uint64{}}) || !req.Same(api.Request{Body: []byte{}, Args: []uint64{}}, api.Request{}) {
		t.Error("nil and an empty list are not the same")
	}
}
