package types_test

import (
	"bytes"
	"reflect"
	"strings"
	"testing"

	"cloakroom/api"
	"cloakroom/leb"
	"cloakroom/probe"
	"cloakroom/types"
)

// all are the types of values, in the order in which the chapter names them.
const all = "\x7f\x7e\x70\x6f"

func TestValueTellsTypesOfValues(t *testing.T) {
	named := map[byte]api.Errno{
		0x7f: api.OK, 0x7e: api.OK, 0x70: api.OK, 0x6f: api.OK,
		0x7d: api.ErrProfile, 0x7c: api.ErrProfile, 0x7b: api.ErrProfile,
	}
	for b := range 256 {
		want, isNamed := named[byte(b)]
		if !isNamed {
			want = api.ErrForm
		}
		if ok, e := types.Value(byte(b)); ok != (want == api.OK) || e != want {
			t.Errorf("Value(%#x): %v, error %d, want error %d", b, ok, e, want)
		}
	}
}

func TestRefTellsTypesOfReferences(t *testing.T) {
	for b := range 256 {
		if got, want := types.Ref(byte(b)), b == 0x70 || b == 0x6f; got != want {
			t.Errorf("Ref(%#x): %v", b, got)
		}
	}
}

// function is a function's type, and its bytes by the chapter's words.
type function struct {
	bytes string
	t     api.FuncType
}

func of(params, results string) api.FuncType {
	return api.FuncType{Params: []byte(params), Results: []byte(results)}
}

// functions are within all limits: each of them is put, and taken.
func functions() []function {
	list := []function{
		{"\x60\x00\x00", api.FuncType{}},
		{"\x60\x01\x7f\x00", of("\x7f", "")},
		{"\x60\x00\x01\x7e", of("", "\x7e")},
		{"\x60\x01\x70\x01\x6f", of("\x70", "\x6f")},
		{"\x60\x02\x7f\x70\x01\x7e", of("\x7f\x70", "\x7e")},
		{"\x60\x01\x6f\x02\x7e\x7f", of("\x6f", "\x7e\x7f")},
		{"\x60\x04\x7f\x7e\x70\x6f\x04\x6f\x70\x7e\x7f", of(all, "\x6f\x70\x7e\x7f")},
	}
	for params := range api.MaxArity + 1 {
		for results := range api.MaxArity + 1 {
			p, r := strings.Repeat(all, 2)[:params], strings.Repeat("\x6f\x7f", 4)[:results]
			list = append(list, function{"\x60" + string(rune(params)) + p + string(rune(results)) + r, of(p, r)})
		}
	}
	return list
}

func TestPutFuncWritesBehindWhatIsThere(t *testing.T) {
	for _, c := range functions() {
		for _, front := range []string{"", "\x60", "front"} {
			if got := types.PutFunc([]byte(front), c.t); string(got) != front+c.bytes {
				t.Errorf("PutFunc(%q, %v): %q, want %q", front, c.t, got, front+c.bytes)
			}
		}
		if got := types.PutFunc(nil, c.t); string(got) != c.bytes {
			t.Errorf("PutFunc(nil, %v): %q, want %q", c.t, got, c.bytes)
		}
	}
}

// TestPutFuncGoesBeyondWhatIsTaken: how many there are is a number of leb, however many.
func TestPutFuncGoesBeyondWhatIsTaken(t *testing.T) {
	for size, count := range map[int]string{9: "\x09", 127: "\x7f", 128: "\x80\x01", 300: "\xac\x02"} {
		many := strings.Repeat("\x7e", size)
		for want, f := range map[string]api.FuncType{
			"\x60" + count + many + "\x01\x7f": of(many, "\x7f"),
			"\x60\x01\x7f" + count + many:      of("\x7f", many),
		} {
			got := types.PutFunc(nil, f)
			if string(got) != want {
				t.Errorf("%d of them: %q", size, got)
			}
			refusedFunc(t, string(got), api.ErrLong)
		}
	}
}

// takesFunc asks that in begins with a function's type of n bytes.
func takesFunc(t *testing.T, in string, want api.FuncType, n int) {
	t.Helper()
	got, read, e := types.TakeFunc([]byte(in))
	if string(got.Params) != string(want.Params) || string(got.Results) != string(want.Results) || read != n || e != api.OK {
		t.Errorf("TakeFunc(%q): %v, %d bytes, error %d, want %v, %d bytes", in, got, read, e, want, n)
	}
}

// refusedFunc asks that in begins with no function's type, and that nothing is told beside the error.
func refusedFunc(t *testing.T, in string, want api.Errno) {
	t.Helper()
	if got, n, e := types.TakeFunc([]byte(in)); e != want || n != 0 || !reflect.DeepEqual(got, api.FuncType{}) {
		t.Errorf("TakeFunc(%.60q): %v, %d bytes, error %d, want %d", in, got, n, e, want)
	}
}

func TestWhatIsPutOfAFunctionIsTaken(t *testing.T) {
	for _, c := range functions() {
		for _, behind := range []string{"", "\x00", "\x60", "\x7f", "\x80", "\xff\xff", c.bytes} {
			takesFunc(t, c.bytes+behind, c.t, len(c.bytes))
		}
		got, n, e := types.TakeFunc(types.PutFunc(nil, c.t))
		if !types.Same(got, c.t) || n != len(c.bytes) || e != api.OK {
			t.Errorf("%v: %v, %d bytes, error %d", c.t, got, n, e)
		}
	}
}

func TestTakeFuncReadsLongerNumbers(t *testing.T) {
	takesFunc(t, "\x60\x80\x00\x80\x80\x00", of("", ""), 6)
	takesFunc(t, "\x60\x81\x80\x80\x80\x00\x7f\x82\x00\x7e\x6f\x01", of("\x7f", "\x7e\x6f"), 11)
	takesFunc(t, "\x60\x88\x00"+all+all+"\x88\x80\x00"+all+all, of(all+all, all+all), 22)
}

func TestTakeFuncTellsBytesThatEndTooSoon(t *testing.T) {
	for _, c := range functions() {
		for n := range c.bytes {
			refusedFunc(t, c.bytes[:n], api.ErrShort)
		}
	}
}

func TestTakeFuncTellsAnotherFirstByte(t *testing.T) {
	for b := range 256 {
		if b == 0x60 {
			continue
		}
		for _, rest := range []string{"", "\x00", "\x00\x00", "\x09", "\x01\x7d"} {
			refusedFunc(t, string([]byte{byte(b)})+rest, api.ErrForm)
		}
	}
}

func TestTakeFuncTellsErrorsAsTheyAreMet(t *testing.T) {
	const over32 = "\xff\xff\xff\xff\x1f"
	eight := all + all
	for in, want := range map[string]api.Errno{
		// too many, whatever is behind how many
		"\x60\x09":                                       api.ErrLong,
		"\x60\x09" + eight + "\x7f\x00":                  api.ErrLong,
		"\x60\x09\x7d":                                   api.ErrLong,
		"\x60\x09\x01":                                   api.ErrLong,
		"\x60\x89\x00":                                   api.ErrLong,
		"\x60\x80\x80\x80\x80\x08":                       api.ErrLong,
		"\x60\xff\xff\xff\xff\x0f":                       api.ErrLong,
		"\x60\x00\x09":                                   api.ErrLong,
		"\x60\x00\x09" + eight + "\x7f":                  api.ErrLong,
		"\x60\x00\xff\xff\xff\xff\x0f":                   api.ErrLong,
		"\x60\x08" + eight + "\x09":                      api.ErrLong,
		"\x60\x08" + eight + "\x08" + all:                api.ErrShort,
		"\x60\x08" + eight[1:]:                           api.ErrShort,
		"\x60\x08" + eight[:7] + "\x09":                  api.ErrForm,
		"\x60\x08" + eight[:7] + "\x7c":                  api.ErrProfile,
		"\x60\x08" + eight + "\x08" + eight[:7] + "\x7b": api.ErrProfile,
		// a type that is none, ahead of what is missing or wrong behind it
		"\x60\x01\x7d":             api.ErrProfile,
		"\x60\x01\x7c":             api.ErrProfile,
		"\x60\x01\x7b":             api.ErrProfile,
		"\x60\x01\x7a":             api.ErrForm,
		"\x60\x01\x40":             api.ErrForm,
		"\x60\x01\x60":             api.ErrForm,
		"\x60\x08\x7d":             api.ErrProfile,
		"\x60\x08\x00":             api.ErrForm,
		"\x60\x02\x7d\x00":         api.ErrProfile,
		"\x60\x02\x00\x7d":         api.ErrForm,
		"\x60\x02\x7f\x7d\x00":     api.ErrProfile,
		"\x60\x01\x7d\x09":         api.ErrProfile,
		"\x60\x01\x00\x09":         api.ErrForm,
		"\x60\x01\x7f\x01\x7d":     api.ErrProfile,
		"\x60\x01\x7f\x01\x6e":     api.ErrForm,
		"\x60\x00\x02\x7b":         api.ErrProfile,
		"\x60\x00\x02\x71":         api.ErrForm,
		"\x60\x00\x02\x7f\x7b":     api.ErrProfile,
		"\x60\x00\x02\x7b\x71":     api.ErrProfile,
		"\x60\x00\x02\x71\x7b":     api.ErrForm,
		"\x60\x01\xff\x00":         api.ErrForm,
		"\x60\x01\x7f\x01\xff\x00": api.ErrForm,
		// how many is a number of 32 bits
		"\x60" + over32:                    api.ErrForm,
		"\x60" + over32 + "\x00":           api.ErrForm,
		"\x60\x00" + over32:                api.ErrForm,
		"\x60\x80\x80\x80\x80\x80":         api.ErrForm,
		"\x60\x80\x80\x80\x80\x80\x00":     api.ErrForm,
		"\x60\x00\x80\x80\x80\x80\x80\x00": api.ErrForm,
		"\x60\x80\x80\x80\x80":             api.ErrShort,
		"\x60\x80":                         api.ErrShort,
		"\x60\x89":                         api.ErrShort,
		"\x60\x00\x89":                     api.ErrShort,
	} {
		refusedFunc(t, in, want)
	}
}

// expectFunc works out by the chapter's words what TakeFunc answers.
func expectFunc(b []byte) (f api.FuncType, n int, e api.Errno) {
	if len(b) == 0 {
		return f, 0, api.ErrShort
	}
	if b[0] != 0x60 {
		return f, 0, api.ErrForm
	}
	params, n, e := expectValues(b[1:])
	if e != api.OK {
		return f, 0, e
	}
	results, more, e := expectValues(b[1+n:])
	if e != api.OK {
		return f, 0, e
	}
	return api.FuncType{Params: params, Results: results}, 1 + n + more, api.OK
}

func expectValues(b []byte) (values []byte, n int, e api.Errno) {
	size, n, e := leb.U32(b)
	if e != api.OK {
		return nil, 0, e
	}
	if size > 8 {
		return nil, 0, api.ErrLong
	}
	for range size {
		switch {
		case n == len(b):
			return nil, 0, api.ErrShort
		case strings.IndexByte("\x7d\x7c\x7b", b[n]) >= 0:
			return nil, 0, api.ErrProfile
		case strings.IndexByte(all, b[n]) < 0:
			return nil, 0, api.ErrForm
		}
		values, n = append(values, b[n]), n+1
	}
	return values, n, api.OK
}

// holdFunc holds TakeFunc of b against the chapter's words.
func holdFunc(t *testing.T, b []byte) {
	t.Helper()
	got, n, e := types.TakeFunc(b)
	want, wantN, wantE := expectFunc(b)
	if !bytes.Equal(got.Params, want.Params) || !bytes.Equal(got.Results, want.Results) || n != wantN || e != wantE {
		t.Fatalf("TakeFunc(%q): %v, %d bytes, error %d, want %v, %d bytes, error %d", b, got, n, e, want, wantN, wantE)
	}
}

func TestTakeFuncOfAllShortBytes(t *testing.T) {
	probe.Rows("\x60\x00\x01\x02\x7f\x6f\x7c\x80", 6, func(b []byte) { holdFunc(t, b) })
	probe.Rows("\x00\x01\x02\x08\x09\x7f\x70\x7d\x80\xff", 5, func(tail []byte) {
		holdFunc(t, append([]byte{0x60}, tail...))
	})
}

// TestTakeFuncOfOneOtherByte changes each byte of what is one to all others.
func TestTakeFuncOfOneOtherByte(t *testing.T) {
	for _, c := range functions() {
		for i := range len(c.bytes) {
			for v := range 256 {
				b := []byte(c.bytes)
				b[i] = byte(v)
				holdFunc(t, b)
			}
		}
	}
}

func TestSameTellsWhetherTypesAreOne(t *testing.T) {
	lists := []string{"", "\x7f", "\x7e", "\x70", "\x6f", "\x7f\x7f", "\x7f\x7e", "\x7e\x7f", all, all + all}
	for _, p := range lists {
		for _, r := range lists {
			for _, q := range lists {
				for _, s := range lists {
					if got, want := types.Same(of(p, r), of(q, s)), p == q && r == s; got != want {
						t.Errorf("Same(%q -> %q, %q -> %q): %v", p, r, q, s, got)
					}
				}
			}
		}
	}
	if !types.Same(api.FuncType{}, of("", "")) || !types.Same(of("", ""), api.FuncType{}) || !types.Same(api.FuncType{}, api.FuncType{}) {
		t.Error("Same: nil and empty are not one")
	}
}

// limit is limits, and their bytes by the chapter's words.
type limit struct {
	bytes string
	l     api.Limits
}

func limits() []limit {
	const most = "\xff\xff\xff\xff\x0f"
	return []limit{
		{"\x00\x00", api.Limits{}},
		{"\x00\x05", api.Limits{Min: 5}},
		{"\x00\x7f", api.Limits{Min: 127}},
		{"\x00\x80\x01", api.Limits{Min: 128}},
		{"\x00\xe5\x8e\x26", api.Limits{Min: 624485}},
		{"\x00" + most, api.Limits{Min: 1<<32 - 1}},
		{"\x01\x00\x00", api.Limits{Has: true}},
		{"\x01\x01\x02", api.Limits{Min: 1, Max: 2, Has: true}},
		{"\x01\x02\x02", api.Limits{Min: 2, Max: 2, Has: true}},
		{"\x01\x00\x80\x80\x04", api.Limits{Max: 65536, Has: true}},
		{"\x01\x80\x01\x02", api.Limits{Min: 128, Max: 2, Has: true}},
		{"\x01" + most + "\x00", api.Limits{Min: 1<<32 - 1, Has: true}},
		{"\x01\x00" + most, api.Limits{Max: 1<<32 - 1, Has: true}},
		{"\x01" + most + most, api.Limits{Min: 1<<32 - 1, Max: 1<<32 - 1, Has: true}},
	}
}

func TestPutLimitsWritesBehindWhatIsThere(t *testing.T) {
	for _, c := range limits() {
		for _, front := range []string{"", "\x00", "front"} {
			if got := types.PutLimits([]byte(front), c.l); string(got) != front+c.bytes {
				t.Errorf("PutLimits(%q, %v): %q, want %q", front, c.l, got, front+c.bytes)
			}
		}
		if got := types.PutLimits(nil, c.l); string(got) != c.bytes {
			t.Errorf("PutLimits(nil, %v): %q, want %q", c.l, got, c.bytes)
		}
	}
	if got := types.PutLimits(nil, api.Limits{Min: 3, Max: 7}); string(got) != "\x00\x03" {
		t.Errorf("a Max that there is not is put: %q", got)
	}
}

// takesLimits asks that in begins with limits of n bytes.
func takesLimits(t *testing.T, in string, want api.Limits, n int) {
	t.Helper()
	if got, read, e := types.TakeLimits([]byte(in)); got != want || read != n || e != api.OK {
		t.Errorf("TakeLimits(%q): %v, %d bytes, error %d, want %v, %d bytes", in, got, read, e, want, n)
	}
}

// refusedLimits asks that in begins with no limits, and that nothing is told beside the error.
func refusedLimits(t *testing.T, in string, want api.Errno) {
	t.Helper()
	if got, n, e := types.TakeLimits([]byte(in)); e != want || n != 0 || got != (api.Limits{}) {
		t.Errorf("TakeLimits(%q): %v, %d bytes, error %d, want %d", in, got, n, e, want)
	}
}

func TestWhatIsPutOfLimitsIsTaken(t *testing.T) {
	for _, c := range limits() {
		for _, behind := range []string{"", "\x00", "\x01", "\x80", "\xff\xff", c.bytes} {
			takesLimits(t, c.bytes+behind, c.l, len(c.bytes))
		}
		for n := range c.bytes {
			refusedLimits(t, c.bytes[:n], api.ErrShort)
		}
	}
	takesLimits(t, "\x00\x85\x80\x80\x80\x00", api.Limits{Min: 5}, 6)
	takesLimits(t, "\x01\x85\x00\x83\x80\x00\x07", api.Limits{Min: 5, Max: 3, Has: true}, 6)
}

func TestTakeLimitsTellsErrors(t *testing.T) {
	for b := 2; b < 256; b++ {
		for _, rest := range []string{"", "\x00", "\x00\x00", "\x80", "\x80\x80\x80\x80\x80"} {
			refusedLimits(t, string([]byte{byte(b)})+rest, api.ErrForm)
		}
	}
	const over32, long = "\xff\xff\xff\xff\x1f", "\x80\x80\x80\x80\x80\x00"
	for in, want := range map[string]api.Errno{
		"\x00" + over32:            api.ErrForm,
		"\x00" + long:              api.ErrForm,
		"\x00\x80\x80\x80\x80":     api.ErrShort,
		"\x01" + over32:            api.ErrForm,
		"\x01" + over32 + "\x00":   api.ErrForm,
		"\x01" + long + "\x00":     api.ErrForm,
		"\x01\x00" + over32:        api.ErrForm,
		"\x01\x00" + long:          api.ErrForm,
		"\x01\x00\x80\x80\x80\x80": api.ErrShort,
		"\x01\x80\x80\x80\x80":     api.ErrShort,
		"\x01\x80\x80\x80\x80\x00": api.ErrShort,
	} {
		refusedLimits(t, in, want)
	}
}

// expectLimits works out by the chapter's words what TakeLimits answers.
func expectLimits(b []byte) (l api.Limits, n int, e api.Errno) {
	if len(b) == 0 {
		return l, 0, api.ErrShort
	}
	if b[0] > 1 {
		return l, 0, api.ErrForm
	}
	least, n, e := leb.U32(b[1:])
	if e != api.OK {
		return l, 0, e
	}
	if b[0] == 0 {
		return api.Limits{Min: least}, 1 + n, api.OK
	}
	greatest, more, e := leb.U32(b[1+n:])
	if e != api.OK {
		return l, 0, e
	}
	return api.Limits{Min: least, Max: greatest, Has: true}, 1 + n + more, api.OK
}

func TestTakeLimitsOfAllShortBytes(t *testing.T) {
	hold := func(b []byte) {
		got, n, e := types.TakeLimits(b)
		if want, wantN, wantE := expectLimits(b); got != want || n != wantN || e != wantE {
			t.Fatalf("TakeLimits(%q): %v, %d bytes, error %d, want %v, %d bytes, error %d", b, got, n, e, want, wantN, wantE)
		}
	}
	probe.Rows("\x00\x01\x02\x7f\x80\xff", 6, hold)
	probe.Rows("\x01\x0f\x80\xff", 8, func(tail []byte) { hold(append([]byte{1}, tail...)) })
}

func TestPutsLeaveWhatIsHandedIn(t *testing.T) {
	for _, c := range functions() {
		front, frontUnchanged := probe.Handed([]byte("front"))
		params, paramsUnchanged := probe.Handed(c.t.Params)
		results, resultsUnchanged := probe.Handed(c.t.Results)
		f := api.FuncType{Params: params, Results: results}
		first, second := types.PutFunc(front, f), types.PutFunc(front, f)
		probe.Scribble(first)
		if !frontUnchanged() || !paramsUnchanged() || !resultsUnchanged() {
			t.Errorf("%q: what was handed in is changed, or told", c.bytes)
		}
		if string(second) != "front"+c.bytes {
			t.Errorf("%q: two answers share memory", c.bytes)
		}
	}
	for _, c := range limits() {
		front, unchanged := probe.Handed([]byte("front"))
		first, second := types.PutLimits(front, c.l), types.PutLimits(front, c.l)
		probe.Scribble(first)
		if !unchanged() {
			t.Errorf("%q: what was handed in is changed, or told", c.bytes)
		}
		if string(second) != "front"+c.bytes {
			t.Errorf("%q: two answers share memory", c.bytes)
		}
	}
}

func TestTakesLeaveAndKeepNothingOfWhatIsHandedIn(t *testing.T) {
	for _, c := range functions() {
		in, unchanged := probe.Handed([]byte(c.bytes))
		first, _, _ := types.TakeFunc(in)
		second, _, _ := types.TakeFunc(in)
		probe.Scribble(first.Params)
		if !bytes.Equal(first.Results, c.t.Results) {
			t.Errorf("%q: two lists of one answer share memory", c.bytes)
		}
		probe.Scribble(first.Results)
		if !unchanged() {
			t.Errorf("%q: what was handed in is changed, or told", c.bytes)
		}
		probe.Scribble(in)
		if !bytes.Equal(second.Params, c.t.Params) || !bytes.Equal(second.Results, c.t.Results) {
			t.Errorf("%q: what is told shares memory: %v", c.bytes, second)
		}
	}
	for _, c := range limits() {
		in, unchanged := probe.Handed([]byte(c.bytes))
		types.TakeLimits(in)
		if !unchanged() {
			t.Errorf("%q: what was handed in is changed", c.bytes)
		}
	}
}

func TestSameLeavesWhatIsHandedIn(t *testing.T) {
	params, paramsUnchanged := probe.Handed([]byte(all))
	results, resultsUnchanged := probe.Handed([]byte("\x7f"))
	f := api.FuncType{Params: params, Results: results}
	if !types.Same(f, of(all, "\x7f")) || !types.Same(f, f) || !paramsUnchanged() || !resultsUnchanged() {
		t.Error("Same changes what is handed in")
	}
}
