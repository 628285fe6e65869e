package frame_test

import (
	"bytes"
	"fmt"
	"slices"
	"testing"

	"cloakroom/api"
	"cloakroom/frame"
	"cloakroom/probe"
)

// fill answers n bytes that differ from their neighbours.
func fill(n int) []byte {
	b := make([]byte, n)
	for i := range b {
		b[i] = byte(i*7 + i>>8)
	}
	return b
}

// stream lays contents behind each other, each with its length ahead of it, whatever that is.
func stream(contents ...[]byte) []byte {
	var b []byte
	for _, c := range contents {
		b = append(b, byte(len(c)/256), byte(len(c)%256))
		b = append(b, c...)
	}
	return b
}

func same(a, b [][]byte) bool { return slices.EqualFunc(a, b, bytes.Equal) }

// expect works out by the chapter's words what is told of all of b, one byte at a time, and what is left then.
func expect(b []byte) (frames [][]byte, rest int, bad bool) {
	var open []byte
	for _, c := range b {
		open = append(open, c)
		if len(open) < 2 {
			continue
		}
		size := int(open[0])*256 + int(open[1])
		if size > 5000 {
			return frames, 0, true
		}
		if len(open) == size+2 {
			frames = append(frames, open[2:])
			open = nil
		}
	}
	return frames, len(open), false
}

func TestPutWritesLengthAndBytes(t *testing.T) {
	cases := []struct {
		size   int
		length string
	}{
		{0, "\x00\x00"}, {1, "\x00\x01"}, {2, "\x00\x02"}, {127, "\x00\x7f"}, {128, "\x00\x80"}, {255, "\x00\xff"},
		{256, "\x01\x00"}, {257, "\x01\x01"}, {511, "\x01\xff"}, {512, "\x02\x00"}, {4999, "\x13\x87"}, {5000, "\x13\x88"},
	}
	for _, c := range cases {
		b := fill(c.size)
		if got, want := frame.Put(b), append([]byte(c.length), b...); !bytes.Equal(got, want) {
			t.Errorf("Put of %d bytes: %x, want %x", c.size, got, want)
		}
	}
	if got := frame.Put(nil); string(got) != "\x00\x00" {
		t.Errorf("Put(nil): %x", got)
	}
}

func TestPutOfTooManyIsNothing(t *testing.T) {
	for _, size := range []int{api.MaxFrame + 1, api.MaxFrame + 2, 8192, 65535, 65536, 65537, 65536 + api.MaxFrame, 1 << 20} {
		if got := frame.Put(make([]byte, size)); len(got) != 0 {
			t.Errorf("Put of %d bytes: %d bytes", size, len(got))
		}
	}
}

func TestPutLeavesWhatIsHandedIn(t *testing.T) {
	for _, size := range []int{0, 1, 2, 300, api.MaxFrame, api.MaxFrame + 1} {
		in, unchanged := probe.Handed(fill(size))
		first, second := frame.Put(in), frame.Put(in)
		if !unchanged() {
			t.Fatalf("Put of %d bytes changed what it was handed, or its spare room", size)
		}
		before := bytes.Clone(second)
		probe.Scribble(first)
		if !unchanged() {
			t.Errorf("Put of %d bytes answers memory that it was handed", size)
		}
		if !bytes.Equal(second, before) {
			t.Errorf("Put of %d bytes: two answers share memory", size)
		}
	}
}

func TestWhatIsPutIsAdded(t *testing.T) {
	p := frame.New()
	for size := range api.MaxFrame + 1 {
		b := fill(size)
		frames, e := p.Add(frame.Put(b)...)
		if !same(frames, [][]byte{b}) || e != api.OK || p.Rest() != 0 || p.Bad() {
			t.Fatalf("%d bytes: %d frames, error %d; %d bytes wait, bad: %t", size, len(frames), e, p.Rest(), p.Bad())
		}
	}
}

func TestAddTellsWhatIsWhole(t *testing.T) {
	p := frame.New()
	if p == nil || p.Rest() != 0 || p.Bad() {
		t.Fatalf("New: %d bytes wait, bad: %t", p.Rest(), p.Bad())
	}
	for i, s := range []struct {
		add  string
		want []string
		rest int
	}{
		{"", nil, 0},
		{"\x00\x01", nil, 2},
		{"\x07", []string{"\x07"}, 0},
		{"\x00", nil, 1},
		{"", nil, 1},
		{"\x03", nil, 2},
		{"ab", nil, 4},
		{"", nil, 4},
		{"c", []string{"abc"}, 0},
		{"\x00\x00", []string{""}, 0},
		{"\x00\x00\x00\x00\x00\x00", []string{"", "", ""}, 0},
		{"\x00\x01x\x00\x00\x00\x02yz\x00\x00", []string{"x", "", "yz", ""}, 0},
		{"\x00\x01\x00\x00\x02\x00\x00\x00\x01", []string{"\x00", "\x00\x00"}, 2},
		{"\x00\x00", []string{"\x00"}, 1},
		{"\x00\x00", []string{""}, 1},
		{"\x02pq\x00\x05hel", []string{"pq"}, 5},
		{"lo\x00", []string{"hello"}, 1},
		{"\x00", []string{""}, 0},
		{"\x14", nil, 1},
	} {
		frames, e := p.Add([]byte(s.add)...)
		var got []string
		for _, f := range frames {
			got = append(got, string(f))
		}
		if !slices.Equal(got, s.want) || e != api.OK || p.Rest() != s.rest || p.Bad() {
			t.Errorf("%d, Add of %q: %q, error %d; %d bytes wait, bad: %t; want %q, %d wait", i, s.add, got, e, p.Rest(), p.Bad(), s.want, s.rest)
		}
	}
}

func TestAddTellsManyAtOnce(t *testing.T) {
	var contents [][]byte
	for i := range 700 {
		contents = append(contents, fill(i%5*i))
	}
	b := stream(contents...)
	p := frame.New()
	frames, e := p.Add(append(b, 0, 9, 1)...)
	if !same(frames, contents) || e != api.OK || p.Rest() != 3 {
		t.Errorf("%d frames, error %d; %d bytes wait", len(frames), e, p.Rest())
	}
}

// bad asks what an Add that is ErrLong leaves: this, whatever comes.
func bad(t *testing.T, name string, p *frame.Parts) {
	t.Helper()
	for _, b := range [][]byte{nil, {0}, {0, 0}, {0, 1, 7}, {0xff, 0xff}, stream(fill(api.MaxFrame))} {
		if p.Rest() != 0 || !p.Bad() {
			t.Errorf("%s: %d bytes wait, bad: %t", name, p.Rest(), p.Bad())
		}
		if frames, e := p.Add(b...); len(frames) != 0 || e != api.ErrLong {
			t.Errorf("%s: Add of %d bytes behind it: %d frames, error %d", name, len(b), len(frames), e)
		}
	}
}

func TestTooLongIsBad(t *testing.T) {
	fronts := [][][]byte{nil, {{}}, {{7}}, {[]byte("one"), {}, []byte("three")}, {fill(api.MaxFrame)}}
	lengths := []string{"\x13\x89", "\x13\xff", "\x14\x00", "\x80\x00", "\xff\x00", "\xff\xff"}
	behinds := [][]byte{nil, {0}, {0, 1, 7}, make([]byte, 70000)}
	for _, front := range fronts {
		for _, length := range lengths {
			for _, behind := range behinds {
				name := fmt.Sprintf("%d frames, %x, %d bytes", len(front), length, len(behind))
				p := frame.New()
				frames, e := p.Add(slices.Concat(stream(front...), []byte(length), behind)...)
				if !same(frames, front) || e != api.ErrLong {
					t.Errorf("%s: %d frames, error %d", name, len(frames), e)
				}
				bad(t, name+", copy", p.Copy())
				bad(t, name, p)
			}
		}
	}
}

func TestTooLongIsToldWhenTheLengthIsThere(t *testing.T) {
	for _, first := range []byte{0x13, 0x14, 0x80, 0xff} {
		p := frame.New()
		if frames, e := p.Add(first); len(frames) != 0 || e != api.OK || p.Rest() != 1 || p.Bad() {
			t.Errorf("%x: %d frames, error %d; %d bytes wait, bad: %t", first, len(frames), e, p.Rest(), p.Bad())
		}
		if frames, e := p.Add(0x89); len(frames) != 0 || e != api.ErrLong {
			t.Errorf("%x89: %d frames, error %d", first, len(frames), e)
		}
		bad(t, fmt.Sprintf("%x89", first), p)
	}
}

func TestTheLongestIsNotBad(t *testing.T) {
	p := frame.New()
	b := stream(fill(api.MaxFrame))
	last := len(b) - 1
	if frames, e := p.Add(b[:last]...); len(frames) != 0 || e != api.OK || p.Rest() != api.MaxFrame+1 || p.Bad() {
		t.Errorf("all but one: %d frames, error %d; %d bytes wait, bad: %t", len(frames), e, p.Rest(), p.Bad())
	}
	if frames, e := p.Add(b[last]); !same(frames, [][]byte{fill(api.MaxFrame)}) || e != api.OK || p.Rest() != 0 || p.Bad() {
		t.Errorf("all: %d frames, error %d; %d bytes wait, bad: %t", len(frames), e, p.Rest(), p.Bad())
	}
}

func TestTooLongBehindBytesThatWait(t *testing.T) {
	p := frame.New()
	p.Add(0, 3, 'a')
	frames, e := p.Add('b', 'c', 0, 0, 0x20, 0, 0, 1, 'x')
	if !same(frames, [][]byte{[]byte("abc"), {}}) || e != api.ErrLong {
		t.Errorf("%q, error %d", frames, e)
	}
	bad(t, "behind bytes that wait", p)
}

func TestAddLeavesAndKeepsNothingOfWhatIsHandedIn(t *testing.T) {
	for n := range 12 {
		b := stream([]byte("abc"), []byte("defgh"))
		in, unchanged := probe.Handed(b[:n])
		p := frame.New()
		frames, _ := p.Add(in...)
		if !unchanged() {
			t.Fatalf("Add of %d bytes changed what it was handed, or its spare room", n)
		}
		told := slices.Clone(frames)
		for i, f := range told {
			told[i] = bytes.Clone(f)
		}
		probe.Scribble(in)
		if !same(frames, told) {
			t.Errorf("Add of %d bytes answers memory that it was handed", n)
		}
		more, e := p.Add(b[n:]...)
		if all := append(told, more...); !same(all, [][]byte{[]byte("abc"), []byte("defgh")}) || e != api.OK {
			t.Errorf("Add of %d bytes keeps memory that it was handed: %q, error %d", n, all, e)
		}
	}
}

func TestAddAnswersNewMemory(t *testing.T) {
	p := frame.New()
	p.Add(0)
	frames, _ := p.Add(append([]byte{2}, "ab\x00\x00\x00\x03cde\x00\x04fg"...)...)
	if len(frames) != 3 {
		t.Fatalf("%q", frames)
	}
	for i, f := range frames {
		others := slices.Concat(slices.Concat(frames[:i]...), slices.Concat(frames[i+1:]...))
		probe.Scribble(f)
		_ = append(f, 0x5a)
		if now := slices.Concat(slices.Concat(frames[:i]...), slices.Concat(frames[i+1:]...)); !bytes.Equal(now, others) {
			t.Errorf("frame %d shares memory with another one", i)
		}
	}
	last, e := p.Add('h', 'i')
	if !same(last, [][]byte{[]byte("fghi")}) || e != api.OK {
		t.Errorf("what waits shares memory with what was told: %q, error %d", last, e)
	}
	p.Add(0, 9, 1, 2, 3)
	if !same(last, [][]byte{[]byte("fghi")}) {
		t.Errorf("what was told is written to: %q", last)
	}
}

// TestCopyGoesOnByItself cuts a frame at each place, and ends it in one way in the one and in another way in the other, by turns.
func TestCopyGoesOnByItself(t *testing.T) {
	one, other := []byte("\x00\x09abcdefghi"), []byte("\x00\x09ABCDEFGHI")
	for n := range len(one) {
		p := frame.New()
		p.Add(0, 2, 'x', 'y')
		p.Add(one[:n]...)
		c := p.Copy()
		if c == p || c.Rest() != n || c.Bad() {
			t.Fatalf("Copy with %d bytes that wait: %d bytes wait, bad: %t", n, c.Rest(), c.Bad())
		}
		var ofP, ofC [][]byte
		for i := n; i < len(one); i++ {
			frames, _ := p.Add(one[i])
			ofP = append(ofP, frames...)
			if c.Rest() != i {
				t.Fatalf("a byte that came to the one is in its copy too")
			}
			frames, _ = c.Add(other[i])
			ofC = append(ofC, frames...)
		}
		wantC := slices.Concat(one[:n], other[n:])[2:]
		if !same(ofP, [][]byte{one[2:]}) || !same(ofC, [][]byte{wantC}) {
			t.Errorf("cut behind %d: %q and %q", n, ofP, ofC)
		}
	}
}

func TestCopyIsBadByItself(t *testing.T) {
	p := frame.New()
	p.Add(0)
	c := p.Copy()
	if _, e := c.Add(0, 0xff, 0xff); e != api.ErrLong || !c.Bad() || p.Bad() || p.Rest() != 1 {
		t.Errorf("a copy that is bad: error %d, bad: %t, the one it is of: bad: %t, %d bytes wait", e, c.Bad(), p.Bad(), p.Rest())
	}
	if frames, e := p.Add(1, 7); !same(frames, [][]byte{{7}}) || e != api.OK {
		t.Errorf("behind a copy that is bad: %q, error %d", frames, e)
	}
	fine := p.Copy()
	p.Add(0xff, 0xff)
	if frames, e := fine.Add(0, 1, 7); !same(frames, [][]byte{{7}}) || e != api.OK || fine.Bad() {
		t.Errorf("a copy of one that is bad since: %q, error %d, bad: %t", frames, e, fine.Bad())
	}
}

func TestPartsAreApart(t *testing.T) {
	p, q := frame.New(), frame.New()
	p.Add(0, 1)
	q.Add(0xff, 0xff)
	if p.Rest() != 2 || p.Bad() || q.Rest() != 0 || !q.Bad() || frame.New().Rest() != 0 || frame.New().Bad() {
		t.Errorf("%d bytes wait, bad: %t; %d bytes wait, bad: %t", p.Rest(), p.Bad(), q.Rest(), q.Bad())
	}
}

func TestNilParts(t *testing.T) {
	var none *frame.Parts
	for _, b := range [][]byte{nil, {0}, {0, 0}, {0, 1, 7}, {0xff, 0xff}} {
		if frames, e := none.Add(b...); len(frames) != 0 || e != api.ErrArg {
			t.Errorf("Add of %x: %q, error %d", b, frames, e)
		}
	}
	if none.Rest() != 0 || none.Bad() || none.Copy() != nil {
		t.Errorf("%d bytes wait, bad: %t, copy: %v", none.Rest(), none.Bad(), none.Copy())
	}
}

// gather adds pieces, and holds after each of them what is told against the chapter's words for all that came.
func gather(pieces [][]byte) error {
	p := frame.New()
	var came []byte
	var all [][]byte
	for i, piece := range pieces {
		_, _, wasBad := expect(came)
		came = append(came, piece...)
		frames, e := p.Add(piece...)
		all = append(all, frames...)
		want, rest, isBad := expect(came)
		wantE := api.OK
		if isBad {
			wantE = api.ErrLong
		}
		if wasBad && len(frames) > 0 || !same(all, want) || e != wantE || p.Rest() != rest || p.Bad() != isBad {
			return fmt.Errorf("piece %d of %.60x: %d frames, error %d, %d bytes wait, bad: %t; want %d frames, error %d, %d wait", i, pieces, len(all), e, p.Rest(), p.Bad(), len(want), wantE, rest)
		}
	}
	return nil
}

// TestHoweverBytesAreCut cuts short streams in all ways there are.
func TestHoweverBytesAreCut(t *testing.T) {
	for _, b := range []string{
		"\x00\x03abc\x00\x00\x00\x01d\x00\x02e",
		"\x00\x00\x00\x00\x00\x01\x00\x00\x02\x00\x01",
		"\x00\x01a\x13\x89\x00\x00\x00\x01b",
		"\x00\x00\x01\x00\x00\x01\x02\x03\x04",
		"\x00\x01\xff\xff\xff\x00\x00\x00",
		"\x13\x88\x13\x89\x13\x89\x00\x01",
	} {
		for cuts := range 1 << (len(b) - 1) {
			pieces := [][]byte{{}}
			for i := range b {
				last := len(pieces) - 1
				pieces[last] = append(pieces[last], b[i])
				if cuts>>i&1 == 1 {
					pieces = append(pieces, nil)
				}
			}
			if err := gather(pieces); err != nil {
				t.Fatal(err)
			}
		}
	}
}

// TestHoweverLongStreamsAreCut cuts by sizes that stand across lengths and frames in many ways.
func TestHoweverLongStreamsAreCut(t *testing.T) {
	fine := stream(fill(api.MaxFrame), nil, fill(1), fill(256), fill(255), nil, fill(api.MaxFrame), fill(3))
	long := slices.Concat(stream(fill(600), nil, fill(256)), []byte{0x13, 0x89}, stream(fill(api.MaxFrame)))
	for _, b := range [][]byte{fine, fine[:len(fine)-1], long} {
		for _, size := range []int{97, 256, 257, 258, 1000, 5001, 5002, 5003, 9999, len(b)} {
			if err := gather(slices.Collect(slices.Chunk(b, size))); err != nil {
				t.Error(err)
			}
		}
	}
	p := frame.New()
	var all [][]byte
	for _, c := range fine {
		frames, e := p.Add(c)
		if e != api.OK {
			t.Fatalf("byte by byte: error %d", e)
		}
		all = append(all, frames...)
	}
	if want, _, _ := expect(fine); !same(all, want) || p.Rest() != 0 {
		t.Errorf("byte by byte: %d frames, %d bytes wait", len(all), p.Rest())
	}
}
