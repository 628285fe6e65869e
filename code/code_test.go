package code_test

import (
	"math"
	"slices"
	"strings"
	"testing"

	"cloakroom/api"
	"cloakroom/code"
	"cloakroom/op"
	"cloakroom/probe"
)

const (
	end   = "\x0b"
	most  = "\xff\xff\xff\xff\x0f" // 2^32 - 1, of leb
	nop   = "\x01"
	block = "\x02\x40"
)

// written is instructions, and their bytes by the chapter's words, as short as they can be.
type written struct {
	bytes string
	l     []api.Instr
}

func single(bytes string, x api.Instr) written { return written{bytes, []api.Instr{x}} }

// withEnd makes it a body.
func (w written) withEnd() written {
	return written{w.bytes + end, append(slices.Clone(w.l), api.Instr{Op: 0x0b})}
}

// opBytes are the bytes of an Op alone.
func opBytes(x int) string {
	if x < 0x100 {
		return string([]byte{byte(x)})
	}
	return string([]byte{0xfc, byte(x)})
}

// singles are instructions that open and close no block, of every kind, and all that have one name, or two, or none.
func singles() (list []written) {
	numbers := map[string]uint32{"\x00": 0, "\x07": 7, "\x7f": 127, "\x80\x01": 128, "\xe5\x8e\x26": 624485, most: math.MaxUint32}
	for _, x := range bare {
		if x != 0x05 && x != 0x0b {
			list = append(list, single(opBytes(x), api.Instr{Op: x}))
		}
	}
	for b, v := range numbers {
		for _, x := range ones {
			list = append(list, single(opBytes(x)+b, api.Instr{Op: x, A: v}))
		}
		for _, x := range twos {
			list = append(list, single(opBytes(x)+b+"\x03", api.Instr{Op: x, A: v, B: 3}), single(opBytes(x)+"\x03"+b, api.Instr{Op: x, A: 3, B: v}))
		}
		for _, x := range loadsAndStores {
			list = append(list, single(opBytes(x)+"\x02"+b, api.Instr{Op: x, A: 2, B: v}))
		}
		list = append(list,
			single("\xfc\x08"+b+"\x00", api.Instr{Op: 0xfc08, A: v}),
			single("\x0e\x00"+b, api.Instr{Op: 0x0e, A: v}),
			single("\x0e\x02"+b+"\x05\x06", api.Instr{Op: 0x0e, L: []uint32{v, 5}, A: 6}),
			single("\x0e\x02\x05"+b+"\x06", api.Instr{Op: 0x0e, L: []uint32{5, v}, A: 6}))
	}
	for power := range uint32(32) {
		list = append(list, single("\x28"+string(rune(power))+"\x09", api.Instr{Op: 0x28, A: power, B: 9}))
	}
	for _, t := range "\x7f\x7e\x70\x6f" {
		list = append(list, single("\x1c\x01"+string(t), api.Instr{Op: 0x1c, A: uint32(t)}))
	}
	return append(append(list, constants()...),
		single("\xfc\x0a\x00\x00", api.Instr{Op: 0xfc0a}),
		single("\xfc\x0b\x00", api.Instr{Op: 0xfc0b}),
		single("\x3f\x00", api.Instr{Op: 0x3f}),
		single("\x40\x00", api.Instr{Op: 0x40}),
		single("\xd0\x70", api.Instr{Op: 0xd0, A: 0x70}),
		single("\xd0\x6f", api.Instr{Op: 0xd0, A: 0x6f}))
}

func constants() []written {
	return []written{
		single("\x41\x00", api.Instr{Op: 0x41}),
		single("\x41\x01", api.Instr{Op: 0x41, N: 1}),
		single("\x41\x3f", api.Instr{Op: 0x41, N: 63}),
		single("\x41\xc0\x00", api.Instr{Op: 0x41, N: 64}),
		single("\x41\x7f", api.Instr{Op: 0x41, N: 1<<32 - 1}),
		single("\x41\x40", api.Instr{Op: 0x41, N: 1<<32 - 64}),
		single("\x41\xbf\x7f", api.Instr{Op: 0x41, N: 1<<32 - 65}),
		single("\x41\xff\xff\xff\xff\x07", api.Instr{Op: 0x41, N: 1<<31 - 1}),
		single("\x41\x80\x80\x80\x80\x78", api.Instr{Op: 0x41, N: 1 << 31}),
		single("\x42\x00", api.Instr{Op: 0x42}),
		single("\x42\x7f", api.Instr{Op: 0x42, N: 1<<64 - 1}),
		single("\x42\xc0\x00", api.Instr{Op: 0x42, N: 64}),
		single("\x42\xff\xff\xff\xff\x0f", api.Instr{Op: 0x42, N: 1<<32 - 1}),
		single("\x42\x80\x80\x80\x80\x78", api.Instr{Op: 0x42, N: 1<<64 - 1<<31}),
		single("\x42\xff\xff\xff\xff\xff\xff\xff\xff\xff\x00", api.Instr{Op: 0x42, N: 1<<63 - 1}),
		single("\x42\x80\x80\x80\x80\x80\x80\x80\x80\x80\x7f", api.Instr{Op: 0x42, N: 1 << 63}),
	}
}

// nested are bodies with blocks, of every type that a block may have.
func nested() (list []written) {
	types := map[string]int{
		"\x40": -64, "\x7f": -1, "\x7e": -2, "\x70": -16, "\x6f": -17,
		"\x00": 0, "\x01": 1, "\x3f": 63, "\xc0\x00": 64, "\xff\x00": 127, "\x80\x01": 128, most: math.MaxUint32,
	}
	e := api.Instr{Op: 0x0b}
	for b, t := range types {
		for x := 0x02; x <= 0x04; x++ {
			list = append(list, written{opBytes(x) + b + end + end, []api.Instr{{Op: x, T: t}, e, e}})
		}
		list = append(list,
			written{"\x04" + b + "\x05" + end + end, []api.Instr{{Op: 4, T: t}, {Op: 5}, e, e}},
			written{"\x04" + b + nop + "\x05\x00" + end + end, []api.Instr{{Op: 4, T: t}, {Op: 1}, {Op: 5}, {Op: 0}, e, e}})
	}
	f, o := api.Instr{Op: 4, T: -64}, api.Instr{Op: 5}
	return append(list,
		written{end, []api.Instr{e}},
		written{nop + end, []api.Instr{{Op: 1}, e}},
		// one if in each half of another, each with an else of its own
		written{"\x04\x40\x04\x40\x05\x0b\x05\x04\x40\x05\x0b\x0b\x0b", []api.Instr{f, f, o, e, o, f, o, e, e, e}},
		// an else of the outer if behind an inner one without, and behind a block and a loop
		written{"\x04\x40\x04\x40\x0b\x05\x0b\x0b", []api.Instr{f, f, e, o, e, e}},
		written{"\x04\x40\x02\x40\x0b\x03\x40\x0b\x05\x02\x40\x0b\x0b\x0b", []api.Instr{f, {Op: 2, T: -64}, e, {Op: 3, T: -64}, e, o, {Op: 2, T: -64}, e, e, e}},
		// an if within a block, and two behind each other
		written{"\x02\x40\x04\x40\x05\x0b\x0b\x04\x40\x05\x0b\x0b", []api.Instr{{Op: 2, T: -64}, f, o, e, e, f, o, e, e}})
}

// bodies are within all limits: each of them is put, and taken.
func bodies() (list []written) {
	for _, w := range singles() {
		list = append(list, w.withEnd())
	}
	return append(list, nested()...)
}

// takes asks that in begins with a body of n bytes.
func takes(t *testing.T, in string, want []api.Instr, n int) {
	t.Helper()
	if got, read, e := code.Take([]byte(in)); !alike(got, want) || read != n || e != api.OK {
		t.Errorf("Take(%.60q): %v, %d bytes, error %d, want %v, %d bytes", in, got, read, e, want, n)
	}
}

// refused asks that in begins with no body, and that nothing is told beside the error.
func refused(t *testing.T, in string, want api.Errno) {
	t.Helper()
	if got, n, e := code.Take([]byte(in)); len(got) != 0 || n != 0 || e != want {
		t.Errorf("Take(%.60q): %v, %d bytes, error %d, want %d", in, got, n, e, want)
	}
}

func TestTakeReadsUpToTheBodysEnd(t *testing.T) {
	for _, w := range bodies() {
		for _, behind := range []string{"", end, "\x05", "\x00", "\xfd", "\x80\xff"} {
			takes(t, w.bytes+behind, w.l, len(w.bytes))
		}
	}
}

func TestTakeTellsBytesThatEndTooSoon(t *testing.T) {
	for _, w := range bodies() {
		for n := range w.bytes {
			refused(t, w.bytes[:n], api.ErrShort)
		}
	}
}

func TestPutWritesBehindWhatIsThere(t *testing.T) {
	for _, w := range bodies() {
		for _, front := range []string{"", end, "front"} {
			if got := code.Put([]byte(front), w.l...); string(got) != front+w.bytes {
				t.Errorf("Put(%q, %v): %q, want %q", front, w.l, got, front+w.bytes)
			}
		}
		if got := code.Put(nil, w.l...); string(got) != w.bytes {
			t.Errorf("Put(nil, %v): %q, want %q", w.l, got, w.bytes)
		}
	}
	if got := code.Put([]byte("front")); string(got) != "front" {
		t.Errorf("Put of nothing: %q", got)
	}
	if got := code.Put(nil); len(got) != 0 {
		t.Errorf("Put of nothing, behind nothing: %q", got)
	}
}

func TestPutWritesAllInTheirOrder(t *testing.T) {
	var all written
	for _, w := range singles() {
		all.bytes, all.l = all.bytes+w.bytes, append(all.l, w.l...)
	}
	if got := code.Put(nil, all.l...); string(got) != all.bytes {
		t.Error("the bytes of many are not the bytes of each")
	}
}

func TestWhatIsPutIsTaken(t *testing.T) {
	for _, w := range bodies() {
		got, n, e := code.Take(code.Put(nil, w.l...))
		if !code.Same(got, w.l) || n != len(w.bytes) || e != api.OK {
			t.Errorf("%v: %v, %d bytes, error %d", w.l, got, n, e)
		}
	}
}

// TestNoInstructionIsLeftOut: what is put and taken above is the whole profile.
func TestNoInstructionIsLeftOut(t *testing.T) {
	seen := map[int]int{}
	for _, w := range bodies() {
		for _, x := range w.l {
			seen[x.Op]++
		}
	}
	for _, x := range op.Names() {
		if seen[x] == 0 {
			t.Errorf("%#x is in no body", x)
		}
	}
}

func TestTakeReadsLongerNumbers(t *testing.T) {
	for in, want := range map[string]api.Instr{
		"\x10\x85\x80\x80\x80\x00":             {Op: 0x10, A: 5},
		"\x11\x81\x00\x82\x80\x00":             {Op: 0x11, A: 1, B: 2},
		"\x28\x9f\x80\x00\x83\x00":             {Op: 0x28, A: 31, B: 3},
		"\x41\xff\xff\xff\xff\x7f":             {Op: 0x41, N: 1<<32 - 1},
		"\x41\x80\x00":                         {Op: 0x41},
		"\x42\xff\x7f":                         {Op: 0x42, N: 1<<64 - 1},
		"\x0e\x81\x00\x84\x00\x80\x00":         {Op: 0x0e, L: []uint32{4}},
		"\x1c\x81\x80\x00\x7f":                 {Op: 0x1c, A: 0x7f},
		"\xfc\x8d\x00\x03":                     {Op: 0xfc0d, A: 3},
		"\xfc\x88\x80\x80\x80\x00\x83\x00\x00": {Op: 0xfc08, A: 3},
		"\xfc\x8a\x00\x00\x00":                 {Op: 0xfc0a},
	} {
		takes(t, in+end, []api.Instr{want, {Op: 0x0b}}, len(in)+1)
	}
	for in, want := range map[string]int{
		"\x80\x00": 0, "\xc0\x80\x00": 64, "\xff\x80\x80\x80\x00": 127, "\xfd\x00": 125, "\xc1\x00": 65,
	} {
		takes(t, "\x02"+in+end+end, []api.Instr{{Op: 2, T: want}, {Op: 0x0b}, {Op: 0x0b}}, len(in)+3)
	}
}

// TestTakeTellsErrorsAsTheyAreMet: each of these is told at its place, whatever stands behind it, and if nothing does.
func TestTakeTellsErrorsAsTheyAreMet(t *testing.T) {
	const over32, long32 = "\xff\xff\xff\xff\x1f", "\x80\x80\x80\x80\x80"
	for in, want := range map[string]api.Errno{
		// what is no instruction, or not of the profile
		"\x06": api.ErrForm, "\x27": api.ErrForm, "\xc5": api.ErrForm, "\xfb": api.ErrForm, "\xfe": api.ErrForm, "\xff": api.ErrForm,
		"\x2a": api.ErrProfile, "\x39": api.ErrProfile, "\x43": api.ErrProfile, "\x92": api.ErrProfile, "\xbf": api.ErrProfile, "\xfd": api.ErrProfile,
		"\xfc\x00": api.ErrProfile, "\xfc\x07": api.ErrProfile, "\xfc\x87\x00": api.ErrProfile,
		"\xfc\x12": api.ErrForm, "\xfc\x7f": api.ErrForm, "\xfc\xff\x01": api.ErrForm,
		// behind 0xfc a number above 255 is none, though 0xfc00 and it were one of vectors, or wrapped round
		"\xfc\x80\x02": api.ErrForm, "\xfc\x88\x02": api.ErrForm, "\xfc\xff\x03": api.ErrForm, "\xfc\x80\x80\x04": api.ErrForm, "\xfc\x88\x80\x04": api.ErrForm, "\xfc" + most: api.ErrForm, "\xfc" + over32: api.ErrForm, "\xfc" + long32: api.ErrForm,
		// numbers of more bits than there are
		"\x10" + over32: api.ErrForm, "\x10" + long32: api.ErrForm, "\x11" + over32: api.ErrForm, "\x11\x00" + over32: api.ErrForm,
		"\x28" + over32: api.ErrForm, "\x28\x00" + over32: api.ErrForm, "\xfc\x0c\x00" + long32: api.ErrForm,
		"\x41\xff\xff\xff\xff\x0f": api.ErrForm, "\x41\x80\x80\x80\x80\x70": api.ErrForm, "\x41" + long32: api.ErrForm,
		"\x42\xff\xff\xff\xff\xff\xff\xff\xff\xff\x01": api.ErrForm, "\x42\x80\x80\x80\x80\x80\x80\x80\x80\x80\x80": api.ErrForm,
		"\x0e" + over32: api.ErrForm, "\x0e\x01" + over32: api.ErrForm, "\x0e\x01\x00" + over32: api.ErrForm, "\x1c" + over32: api.ErrForm,
		// bytes that must be 0, and are bytes, not numbers
		"\x3f\x01": api.ErrForm, "\x40\xff": api.ErrForm, "\x3f\x80": api.ErrForm, "\xfc\x0b\x01": api.ErrForm, "\xfc\x0b\x80": api.ErrForm,
		"\xfc\x0a\x01": api.ErrForm, "\xfc\x0a\x00\x02": api.ErrForm, "\xfc\x0a\x80": api.ErrForm, "\xfc\x08\x00\x01": api.ErrForm, "\xfc\x08\x05\x80": api.ErrForm,
		// an alignment, ahead of its offset
		"\x28\x20": api.ErrForm, "\x29\x7f": api.ErrForm, "\x3e\x80\x01": api.ErrForm, "\x37" + most: api.ErrForm,
		// types
		"\x1c\x00": api.ErrForm, "\x1c\x02": api.ErrForm, "\x1c\x81\x01": api.ErrForm, "\x1c" + most: api.ErrForm,
		"\x1c\x01\x7d": api.ErrProfile, "\x1c\x01\x7b": api.ErrProfile, "\x1c\x01\x40": api.ErrForm, "\x1c\x01\x05": api.ErrForm,
		"\xd0\x7f": api.ErrForm, "\xd0\x7e": api.ErrForm, "\xd0\x7c": api.ErrProfile, "\xd0\x00": api.ErrForm, "\xd0\x40": api.ErrForm,
		"\x02\x7d": api.ErrProfile, "\x03\x7c": api.ErrProfile, "\x04\x7b": api.ErrProfile, "\x02\x41": api.ErrForm, "\x02\x60": api.ErrForm, "\x02\x71": api.ErrForm, "\x02\x7a": api.ErrForm,
		// negative numbers, of more than one byte: not even those that are types' in one
		"\x02\xff\x7f": api.ErrForm, "\x02\xc0\x7f": api.ErrForm, "\x02\xfd\x7f": api.ErrForm, "\x02\xf0\xff\xff\xff\x7f": api.ErrForm, "\x02\x80\x80\x80\x80\x70": api.ErrForm,
		"\x02\xff\xff\xff\xff\x1f": api.ErrForm, "\x02\x80\x80\x80\x80\x10": api.ErrForm, "\x02" + long32: api.ErrForm,
		// an else that may not stand there
		"\x05": api.ErrForm, "\x02\x40\x05": api.ErrForm, "\x03\x40\x05": api.ErrForm, "\x04\x40\x05\x05": api.ErrForm, "\x04\x40\x02\x40\x05": api.ErrForm, "\x04\x40\x03\x40\x05": api.ErrForm,
		"\x04\x40\x0b\x05": api.ErrForm, "\x04\x40\x05\x0b\x05": api.ErrForm, "\x02\x40\x04\x40\x0b\x05": api.ErrForm, "\x04\x40\x05\x02\x40\x05": api.ErrForm, "\x04\x40\x05\x04\x40\x05\x0b\x05": api.ErrForm,
		// more labels than there may be, whatever is behind how many
		"\x0e\xd9\x04": api.ErrLong, "\x0e" + most: api.ErrLong,
	} {
		for _, front := range []string{"", nop, block, "\x04\x7f\x05", "\x02\x40\x0b"} {
			for _, behind := range []string{"", "\x00", end, end + end + end, "\xff", "\x7d", "\xfd"} {
				refused(t, front+in+behind, want)
			}
		}
	}
}

func TestTakeTellsTooManyInstructions(t *testing.T) {
	nops := strings.Repeat(nop, api.MaxBody)
	longest := append(slices.Repeat([]api.Instr{{Op: 1}}, api.MaxBody-1), api.Instr{Op: 0x0b})
	takes(t, nops[1:]+end, longest, api.MaxBody)
	takes(t, nops[1:]+end+"\xff", longest, api.MaxBody)
	for _, behind := range []string{"", end, nop, "\xff", "\xfd", "\x05", "\xfc", "\x02\x40"} {
		refused(t, nops+behind, api.ErrLong)
		refused(t, nops[4:]+"\x04\x40\x05\x0b\x01"+behind, api.ErrLong)
	}
	refused(t, nops[1:], api.ErrShort)
	refused(t, nops[1:]+"\xff", api.ErrForm)
	refused(t, nops[1:]+"\x10", api.ErrShort)
	refused(t, nops[1:]+"\x10\x00", api.ErrLong)
	refused(t, nops[2:]+block, api.ErrShort)
	refused(t, nops[2:]+block+end, api.ErrLong)
}

func TestTakeTellsTooManyOpenBlocks(t *testing.T) {
	ends := strings.Repeat(end, api.MaxNest+1)
	for _, opens := range []string{"\x02\x40", "\x03\x40", "\x04\x7f", "\x04\x40\x05", "\x02\x80\x01"} {
		deep := strings.Repeat(opens, api.MaxNest)
		if _, n, e := code.Take([]byte(deep + ends)); n != len(deep+ends) || e != api.OK {
			t.Errorf("the deepest of %q: %d bytes, error %d", opens, n, e)
		}
		// one that is closed makes room for another
		if _, _, e := code.Take([]byte(deep + end + block + end + ends[1:])); e != api.OK {
			t.Errorf("the deepest of %q, twice: error %d", opens, e)
		}
		for more, want := range map[string]api.Errno{
			"\x02\x40": api.ErrLong, "\x03\x00": api.ErrLong, "\x04\x7e": api.ErrLong, "\x02\x80\x01": api.ErrLong,
			"\x02": api.ErrShort, "\x03": api.ErrShort, "\x04": api.ErrShort, "\x02\x80": api.ErrShort,
			"\x02\x7d": api.ErrProfile, "\x02\x41": api.ErrForm, "\x02\xff\x7f": api.ErrForm,
			"\x0b\x02\x40\x02\x40": api.ErrLong, "\x01\x02\x40\xff": api.ErrLong, "\x02\x40\x05": api.ErrLong,
		} {
			refused(t, deep+more, want)
			if want != api.ErrShort {
				refused(t, deep+more+ends+end, want)
			}
		}
	}
}

func TestTakeTellsTooManyLabels(t *testing.T) {
	for size, count := range map[int]string{1: "\x01", 127: "\x7f", 128: "\x80\x01", 599: "\xd7\x04", 600: "\xd8\x04"} {
		list := make([]uint32, size)
		list[size-1] = 7
		w := written{"\x0e" + count + strings.Repeat("\x00", size-1) + "\x07\x09", []api.Instr{{Op: 0x0e, L: list, A: 9}}}.withEnd()
		takes(t, w.bytes, w.l, len(w.bytes))
		if got := code.Put(nil, w.l...); string(got) != w.bytes {
			t.Errorf("Put of %d labels: %q", size, got)
		}
		refused(t, w.bytes[:len(w.bytes)-2], api.ErrShort)
	}
	refused(t, "\x0e\xd9\x04"+strings.Repeat("\x00", 700)+end, api.ErrLong)
	refused(t, "\x0e\xd9\x84\x00", api.ErrLong)
	// as many as there may be, in one instruction and in the next
	table := "\x0e\xd8\x04" + strings.Repeat("\x01", 601)
	if l, _, e := code.Take([]byte(table + table + end)); len(l) != 3 || e != api.OK {
		t.Errorf("two tables of the most labels: error %d", e)
	}
}

// hold holds Take of b against the chapter's words.
func hold(t *testing.T, b []byte) {
	t.Helper()
	got, n, e := code.Take(b)
	if want, wantN, wantE := expect(b); !alike(got, want) || n != wantN || e != wantE {
		t.Fatalf("Take(%q): %v, %d bytes, error %d, want %v, %d bytes, error %d", b, got, n, e, want, wantN, wantE)
	}
}

func TestTakeOfAllBytesBehindEachOther(t *testing.T) {
	for first := range 256 {
		for second := range 256 {
			for _, behind := range []string{"", end, "\x00" + end, "\x01\x7f" + end, end + end, "\x80"} {
				hold(t, append([]byte{byte(first), byte(second)}, behind...))
			}
			hold(t, []byte{0xfc, byte(first), byte(second), 0, 0x0b})
		}
	}
}

func TestTakeOfAllShortBytes(t *testing.T) {
	probe.Rows("\x02\x04\x05\x0b\x40\x00", 7, func(b []byte) { hold(t, b) })
	probe.Rows("\x00\x01\x0b\x0e\x1c\x28\x41\x7f\x80", 5, func(b []byte) { hold(t, b) })
	probe.Rows("\xfc\x00\x08\x0a\x0b\x0c\x80\xff", 5, func(b []byte) { hold(t, b) })
	probe.Rows("\x00\x0f\x10\x40\x70\x7d\x80\xff", 5, func(tail []byte) {
		hold(t, append([]byte{0x02}, tail...))
		hold(t, append(append([]byte{0x02}, tail...), 0x0b, 0x0b))
	})
}

// TestTakeOfOneOtherByte changes each byte of what is a body to all others.
func TestTakeOfOneOtherByte(t *testing.T) {
	whole := "\x02\x40\x04\x7f\x01\x05\x00\x0b\x03\x05\x0b\x0b\x41\x7f\x42\x80\x01\x28\x02\x83\x01\x0e\x02\x00\x01\x02\x11\x01\x02" +
		"\xfc\x08\x03\x00\xfc\x0a\x00\x00\xfc\x0b\x00\x3f\x00\x1c\x01\x7e\xd0\x70\xd2\x04\x0b"
	list := append(nested(), written{bytes: whole})
	for _, w := range list {
		for i := range len(w.bytes) {
			for v := range 256 {
				b := []byte(w.bytes)
				b[i] = byte(v)
				hold(t, b)
			}
		}
	}
}

func TestSameTellsWhetherAllFieldsAre(t *testing.T) {
	full := func() api.Instr { return api.Instr{Op: 2, A: 3, B: 4, N: 5, L: []uint32{6, 7}, T: 8} }
	for name, change := range map[string]func(x *api.Instr){
		"Op": func(x *api.Instr) { x.Op++ }, "A": func(x *api.Instr) { x.A++ }, "B": func(x *api.Instr) { x.B++ },
		"N": func(x *api.Instr) { x.N += 1 << 32 }, "T": func(x *api.Instr) { x.T = -x.T },
		"no L": func(x *api.Instr) { x.L = nil }, "less L": func(x *api.Instr) { x.L = x.L[:1] }, "more L": func(x *api.Instr) { x.L = append(x.L, 0) },
		"the first L": func(x *api.Instr) { x.L[0]++ }, "the last L": func(x *api.Instr) { x.L[1]++ }, "L's order": func(x *api.Instr) { slices.Reverse(x.L) },
	} {
		other := full()
		change(&other)
		for place := range 3 {
			a, b := []api.Instr{full(), full(), full()}, []api.Instr{full(), full(), full()}
			if !code.Same(a, b) {
				t.Fatal("Same of the same: no")
			}
			b[place] = other
			if code.Same(a, b) || code.Same(b, a) {
				t.Errorf("%s at %d: the same", name, place)
			}
		}
	}
}

func TestSameOfLists(t *testing.T) {
	x, y := api.Instr{Op: 1}, api.Instr{Op: 2}
	lists := [][]api.Instr{{}, {x}, {y}, {x, x}, {x, y}, {y, x}, {api.Instr{}}, {api.Instr{}, {}}}
	for i, a := range lists {
		for j, b := range lists {
			if got := code.Same(a, b); got != (i == j) {
				t.Errorf("Same(%v, %v): %v", a, b, got)
			}
		}
	}
	if !code.Same(nil, []api.Instr{}) || !code.Same(nil, nil) || !code.Same([]api.Instr{{L: nil}}, []api.Instr{{L: []uint32{}}}) {
		t.Error("Same: nil and empty are not one")
	}
}

// TestPutEndsWhateverItIsHanded: of instructions that are not of the profile nothing is promised, but that it ends.
func TestPutEndsWhateverItIsHanded(t *testing.T) {
	numbers := []int{math.MinInt, math.MinInt32, -65, -64, -3, -1, 0, 0x05, 0x43, 0xfc, 0xfd, 0xff, 0x100, 0xfbff, 0xfc00, 0xfc12, 0xfcff, 0xfd00, 0xfdff, 1 << 32, 1 << 33, math.MaxInt}
	for _, o := range append(numbers, op.Names()...) {
		for _, v := range numbers {
			code.Put([]byte("front"), api.Instr{Op: o, A: uint32(v), B: uint32(v), N: uint64(v), L: []uint32{uint32(v)}, T: v})
		}
	}
}

func TestTakeSharesNothing(t *testing.T) {
	const tables = "\x0e\x02\x03\x04\x05\x0e\x02\x06\x07\x08\x0b"
	want := []api.Instr{{Op: 0x0e, L: []uint32{3, 4}, A: 5}, {Op: 0x0e, L: []uint32{6, 7}, A: 8}, {Op: 0x0b}}
	in, unchanged := probe.Handed([]byte(tables))
	first, _, _ := code.Take(in)
	second, _, _ := code.Take(in)
	probe.Scribble(first[0].L)
	if !slices.Equal(first[1].L, want[1].L) {
		t.Error("two lists of one answer share memory")
	}
	probe.Scribble(first[1].L)
	clear(first[:cap(first)])
	if !unchanged() {
		t.Error("what was handed in is changed")
	}
	probe.Scribble(in)
	if !alike(second, want) {
		t.Errorf("what is told shares memory: %v", second)
	}
}

func TestPutAndSameLeaveWhatIsHandedIn(t *testing.T) {
	labels, labelsUnchanged := probe.Handed([]uint32{3, 4})
	front, frontUnchanged := probe.Handed([]byte("front"))
	table := api.Instr{Op: 0x0e, L: labels, A: 5}
	whole := []api.Instr{table, {Op: 0x0b}, {Op: 77, T: 77}}
	l := whole[:2:3]
	first, second := code.Put(front, l...), code.Put(front, l...)
	none := code.Put(front)
	probe.Scribble(first)
	probe.Scribble(none)
	if !code.Same(l, []api.Instr{{Op: 0x0e, L: []uint32{3, 4}, A: 5}, {Op: 0x0b}}) || !code.Same(l, l) {
		t.Error("what was handed in is changed, or not the same")
	}
	if !frontUnchanged() || !labelsUnchanged() || !alike(whole, []api.Instr{table, {Op: 0x0b}, {Op: 77, T: 77}}) {
		t.Error("what was handed in is changed, or told")
	}
	if string(second) != "front\x0e\x02\x03\x04\x05\x0b" {
		t.Errorf("two answers share memory: %q", second)
	}
}
