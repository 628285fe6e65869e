package sect_test

import (
	"bytes"
	"slices"
	"strings"
	"testing"

	"cloakroom/api"
	"cloakroom/leb"
	"cloakroom/probe"
	"cloakroom/sect"
)

const front = "\x00asm\x01\x00\x00\x00"

func of(id byte, body string) sect.Section {
	return sect.Section{ID: id, Body: []byte(body)}
}

// same holds nil and empty bodies as one.
func same(a, b []sect.Section) bool {
	return slices.EqualFunc(a, b, func(x, y sect.Section) bool { return x.ID == y.ID && bytes.Equal(x.Body, y.Body) })
}

// splits asks that tail, behind the eight bytes, is these sections.
func splits(t *testing.T, tail string, want ...sect.Section) {
	t.Helper()
	if got, e := sect.Split([]byte(front + tail)); e != api.OK || !same(got, want) {
		t.Errorf("Split(front + %.60q): %.200q, error %d, want %.200q", tail, got, e, want)
	}
}

// refused asks that in is no sections, and that nothing is told beside the error.
func refused(t *testing.T, in string, want api.Errno) {
	t.Helper()
	if got, e := sect.Split([]byte(in)); e != want || len(got) != 0 {
		t.Errorf("Split(%.60q): %.200q, error %d, want %d", in, got, e, want)
	}
}

// joined are sections, and their bytes behind the eight by the chapter's words.
type joined struct {
	bytes string
	l     []sect.Section
}

func long(id byte, length string, size int) joined {
	body := strings.Repeat("x", size)
	return joined{string([]byte{id}) + length + body, []sect.Section{of(id, body)}}
}

// whole are within all that the chapter asks: each of them is joined, and split.
func whole() []joined {
	return []joined{
		{"", nil},
		{"\x01\x00", []sect.Section{{ID: 1}}},
		{"\x01\x01\x00", []sect.Section{of(1, "\x00")}},
		{"\x0b\x03abc", []sect.Section{of(11, "abc")}},
		{"\x00\x01\x00", []sect.Section{of(0, "\x00")}},
		{"\x00\x05\x02\xc3\xa4\xff\xff", []sect.Section{of(0, "\x02ä\xff\xff")}},
		{"\x00\x02\x01n\x00\x02\x01n", []sect.Section{of(0, "\x01n"), of(0, "\x01n")}},
		{"\x01\x02ab\x00\x07\x01n rest\x09\x00\x0c\x01c\x0a\x00\x00\x01\x00\x0b\x00", []sect.Section{
			of(1, "ab"), of(0, "\x01n rest"), {ID: 9}, of(12, "c"), {ID: 10}, of(0, "\x00"), {ID: 11},
		}},
		{"\x01\x00\x02\x00\x03\x00\x04\x00\x05\x00\x06\x00\x07\x00\x08\x00\x09\x00\x0c\x00\x0a\x00\x0b\x00", []sect.Section{
			{ID: 1}, {ID: 2}, {ID: 3}, {ID: 4}, {ID: 5}, {ID: 6}, {ID: 7}, {ID: 8}, {ID: 9}, {ID: 12}, {ID: 10}, {ID: 11},
		}},
		long(2, "\x7f", 127),
		long(2, "\x80\x01", 128),
		long(10, "\xff\x7f", 16383),
		long(10, "\x80\x80\x01", 16384),
	}
}

func TestJoinWrites(t *testing.T) {
	for _, c := range whole() {
		if got := sect.Join(c.l...); string(got) != front+c.bytes {
			t.Errorf("Join(%.200q): %.200q, want %.200q", c.l, got, front+c.bytes)
		}
	}
}

func TestWhatIsJoinedIsSplit(t *testing.T) {
	for _, c := range whole() {
		splits(t, c.bytes, c.l...)
	}
	inOrder := []byte{1, 2, 3, 4, 5, 6, 7, 8, 9, 12, 10, 11}
	for some := range 1 << len(inOrder) {
		var l []sect.Section
		for i, id := range inOrder {
			if some>>i&1 == 1 {
				l = append(l, of(0, "\x02n"+string(rune('a'+i))), of(id, strings.Repeat("b", i)))
			}
		}
		splits(t, string(sect.Join(l...)[len(front):]), l...)
	}
}

func TestSplitAsksForTheEightBytes(t *testing.T) {
	for n := range len(front) {
		refused(t, front[:n], api.ErrShort)
		refused(t, "wrong  "[:min(n, 7)], api.ErrShort)
	}
	for i := range len(front) {
		for v := range 256 {
			in := []byte(front)
			if in[i] == byte(v) {
				continue
			}
			in[i] = byte(v)
			for _, tail := range []string{"", "\x01\x00", "\x01", "\x0d"} {
				refused(t, string(in)+tail, api.ErrForm)
			}
		}
	}
	refused(t, "\x01"+front, api.ErrForm)
}

// TestSplitTellsBytesThatEndTooSoon cuts what is whole at each place: between two sections nothing is missing.
func TestSplitTellsBytesThatEndTooSoon(t *testing.T) {
	for _, c := range whole() {
		ends := map[int]int{}
		for n := range c.l {
			ends[len(sect.Join(c.l[:n]...))] = n
		}
		in := front + c.bytes
		for cut := len(front); cut < len(in); cut++ {
			if n, isEnd := ends[cut]; isEnd {
				splits(t, in[len(front):cut], c.l[:n]...)
			} else {
				refused(t, in[:cut], api.ErrShort)
			}
		}
	}
}

// stands works out by the chapter's words whether sections of these IDs may stand like this.
func stands(ids []byte) bool {
	places := map[byte]int{1: 1, 2: 2, 3: 3, 4: 4, 5: 5, 6: 6, 7: 7, 8: 8, 9: 9, 12: 10, 10: 11, 11: 12}
	last := 0
	for _, id := range ids {
		if id == 0 {
			continue
		}
		if places[id] <= last {
			return false
		}
		last = places[id]
	}
	return true
}

// holdOrder asks of sections of these IDs, the last one whole and cut behind its ID. All but the last one stand.
func holdOrder(t *testing.T, ids ...byte) {
	t.Helper()
	var l []sect.Section
	for _, id := range ids {
		l = append(l, of(id, "\x00"))
	}
	in := string(sect.Join(l...))
	if stands(ids) {
		splits(t, in[len(front):], l...)
		refused(t, in[:len(in)-2], api.ErrShort)
		return
	}
	for _, behind := range []string{"", "\x00", "\x01", "\x01\x00", "\x80", "\x80\x80\x80\x80\x80", "\xff\xff\xff\xff\x1f"} {
		refused(t, in[:len(in)-2]+behind, api.ErrForm)
	}
}

func TestSplitAsksForTheOrder(t *testing.T) {
	for a := range 256 {
		holdOrder(t, byte(a))
		if a > 12 {
			continue
		}
		for b := range 256 {
			holdOrder(t, byte(a), byte(b))
			if b > 12 || !stands([]byte{byte(a), byte(b)}) {
				continue
			}
			for c := range 256 {
				holdOrder(t, byte(a), byte(b), byte(c))
			}
		}
	}
	holdOrder(t, 12, 0, 0, 10, 0, 12)
	holdOrder(t, 1, 0, 11, 0, 0, 0)
	holdOrder(t, 0, 9, 12, 0, 10, 11, 11)
}

func TestSplitReadsLengthsOfLeb(t *testing.T) {
	splits(t, "\x01\x82\x00ab\x02\x80\x80\x80\x80\x00", of(1, "ab"), of(2, ""))
	splits(t, "\x00\x83\x80\x00\x81\x00n", of(0, "\x81\x00n"))
	for tail, want := range map[string]api.Errno{
		"\x01\x80":                         api.ErrShort,
		"\x01\x80\x80\x80\x80":             api.ErrShort,
		"\x01\x80\x80\x80\x80\x80":         api.ErrForm,
		"\x01\x80\x80\x80\x80\x80\x00":     api.ErrForm,
		"\x01\xff\xff\xff\xff\x1f":         api.ErrForm,
		"\x01\xff\xff\xff\xff\x0f":         api.ErrShort,
		"\x01\xff\xff\xff\xff\x07abc":      api.ErrShort,
		"\x01\x80\x80\x80\x80\x08":         api.ErrShort,
		"\x01\x03ab":                       api.ErrShort,
		"\x01\x03\x02\x00":                 api.ErrShort,
		"\x00\x80\x80\x80\x80\x80":         api.ErrForm,
		"\x00\x80":                         api.ErrShort,
		"\x01\x00\x02\x80\x80":             api.ErrShort,
		"\x01\x00\x02\x80\x80\x80\x80\x80": api.ErrForm,
	} {
		refused(t, front+tail, want)
	}
}

func TestSplitAsksForTheNameOfASection0(t *testing.T) {
	for _, body := range []string{"\x00", "\x00\xff", "\x01a", "\x01a\xff\x80", "\x02\xc3\xa4", "\x80\x00", "\x82\x80\x80\x80\x00ab", "\x04\xf4\x8f\xbf\xbf", "\x03\xed\x9f\xbf\xed\xa0\x80", "\x0a0123456789"} {
		splits(t, string(sect.Join(of(0, body))[len(front):]), of(0, body))
		splits(t, string(sect.Join(of(3, "b"), of(0, body), of(4, "c"))[len(front):]), of(3, "b"), of(0, body), of(4, "c"))
	}
	for _, body := range []string{
		"", "\x80", "\x80\x80\x80\x80", "\x80\x80\x80\x80\x80", "\x80\x80\x80\x80\x80\x00", "\xff\xff\xff\xff\x1f", "\xff\xff\xff\xff\x0f", // no length
		"\x01", "\x02a", "\xff\xff\xff\xff\x0fabc", // fewer bytes than that
		"\x01\xff", "\x01\x80", "\x01\xc3\xa4", "\x02\xc0\x80", "\x03\xe0\x9f\xbf", "\x03\xed\xa0\x80", "\x04\xf4\x90\x80\x80", "\x04abc\xff", // no UTF8
	} {
		in := string(sect.Join(of(0, body)))
		refused(t, in, api.ErrForm)
		// what is missing or wrong behind it is not met
		refused(t, in+"\x01", api.ErrForm)
		refused(t, in+"\x01\x01", api.ErrForm)
		refused(t, string(sect.Join(of(1, ""), of(0, body), of(2, ""))), api.ErrForm)
		// while its bytes are not all there, they can't be asked
		refused(t, in[:len(front)]+"\x00\x20"+body, api.ErrShort)
	}
	// the name does not go on into the next section
	refused(t, front+"\x00\x02\x02a\x01\x00", api.ErrForm)
}

func TestSplitAsksForANameOfSection0Alone(t *testing.T) {
	for id := byte(1); id <= 12; id++ {
		for _, body := range []string{"", "\xff", "\x05a", "\x01\xff"} {
			splits(t, string(sect.Join(of(id, body))[len(front):]), of(id, body))
		}
	}
}

// expect works out by the chapter's words what Split answers of what stands behind the eight bytes.
func expect(b []byte) (l []sect.Section, e api.Errno) {
	var ids []byte
	for len(b) > 0 {
		ids = append(ids, b[0])
		if !stands(ids) {
			return nil, api.ErrForm
		}
		size, n, e := leb.U32(b[1:])
		if e != api.OK {
			return nil, e
		}
		b = b[1+n:]
		if uint64(size) > uint64(len(b)) {
			return nil, api.ErrShort
		}
		body := b[:size]
		b = b[size:]
		if ids[len(ids)-1] == 0 && !hasName(body) {
			return nil, api.ErrForm
		}
		l = append(l, sect.Section{ID: ids[len(ids)-1], Body: body})
	}
	return l, api.OK
}

func hasName(body []byte) bool {
	size, n, e := leb.U32(body)
	return e == api.OK && uint64(size) <= uint64(len(body)-n) && codePoints(body[n:n+int(size)])
}

func TestSplitOfAllShortBytes(t *testing.T) {
	hold := func(tail []byte) {
		got, e := sect.Split(append([]byte(front), tail...))
		if want, wantE := expect(tail); !same(got, want) || e != wantE {
			t.Fatalf("Split(front + %q): %q, error %d, want %q, error %d", tail, got, e, want, wantE)
		}
	}
	probe.Rows("\x00\x01\x02\x0a\x0b\x0c\x0d\x80", 6, hold)
	probe.Rows("\x00\x01\x02\x03\xc3\x80", 7, hold)
	for _, c := range whole()[:9] {
		for i := range len(c.bytes) {
			for v := range 256 {
				b := []byte(c.bytes)
				b[i] = byte(v)
				hold(b)
			}
		}
	}
}

// codePoints works out by the chapter's words what UTF8 answers.
func codePoints(b []byte) bool {
	for len(b) > 0 {
		point, n := 0, 1
		switch {
		case b[0] < 0x80:
			point = int(b[0])
		case b[0]>>5 == 6:
			point, n = int(b[0]&0x1f), 2
		case b[0]>>4 == 14:
			point, n = int(b[0]&0x0f), 3
		case b[0]>>3 == 30:
			point, n = int(b[0]&0x07), 4
		default:
			return false
		}
		if len(b) < n {
			return false
		}
		for _, c := range b[1:n] {
			if c>>6 != 2 {
				return false
			}
			point = point<<6 | int(c&0x3f)
		}
		least := []int{0, 0x80, 0x800, 0x10000}[n-1]
		if point < least || point >= 0xd800 && point <= 0xdfff || point > 0x10ffff {
			return false
		}
		b = b[n:]
	}
	return true
}

// form writes point in n bytes, whether or not they are its shortest form.
func form(point, n int) []byte {
	if n == 1 {
		return []byte{byte(point)}
	}
	b := make([]byte, n)
	for i := n - 1; i > 0; i-- {
		b[i] = byte(0x80 | point&0x3f)
		point >>= 6
	}
	b[0] = ^byte(0xff>>n) | byte(point)
	return b
}

func TestUTF8OfEachCodePoint(t *testing.T) {
	least, room := []int{0, 0x80, 0x800, 0x10000}, []int{0x80, 0x800, 0x10000, 0x200000}
	for n := 1; n <= 4; n++ {
		for point := range room[n-1] {
			want := point >= least[n-1] && (point < 0xd800 || point > 0xdfff) && point <= 0x10ffff
			if b := form(point, n); sect.UTF8(b) != want {
				t.Fatalf("UTF8(%x), %#x in %d bytes: not %v", b, point, n, want)
			}
		}
	}
	for _, n := range []int{5, 6} {
		for _, point := range []int{0, 'a', 0xffff, 0x10ffff, 0x200000, 0x3ffffff} {
			if b := form(point, n); sect.UTF8(b) {
				t.Errorf("UTF8(%x): yes", b)
			}
		}
	}
}

func TestUTF8OfAllShortBytes(t *testing.T) {
	hold := func(b []byte) {
		if got, want := sect.UTF8(b), codePoints(b); got != want {
			t.Fatalf("UTF8(%x): %v", b, got)
		}
	}
	hold(nil)
	for a := range 256 {
		hold([]byte{byte(a)})
		for b := range 256 {
			hold([]byte{byte(a), byte(b)})
		}
	}
	probe.Rows("\x00a\x7f\x80\x8f\x90\x9f\xa0\xbf\xc0\xc1\xc2\xdf\xe0\xe1\xec\xed\xee\xef\xf0\xf1\xf3\xf4\xf5\xf8\xff", 4, hold)
	probe.Rows("a\x80\x8f\x90\xbf\xc3\xe2\xf4", 6, hold)
	for _, b := range []string{strings.Repeat("ä", 3000), strings.Repeat("ä", 3000) + "\xc3", strings.Repeat("a", 3000) + "\xff" + strings.Repeat("a", 3000)} {
		hold([]byte(b))
	}
}

func TestJoinLeavesWhatIsHandedIn(t *testing.T) {
	first, firstUnchanged := probe.Handed([]byte("\x01n"))
	second, secondUnchanged := probe.Handed([]byte("ab"))
	none, noneUnchanged := probe.Handed[byte](nil)
	list := []sect.Section{{ID: 0, Body: first}, {ID: 1, Body: second}, {ID: 2, Body: none}, of(9, "spare")}
	a, b := sect.Join(list[:3]...), sect.Join(list[:3]...)
	probe.Scribble(a)
	if !firstUnchanged() || !secondUnchanged() || !noneUnchanged() {
		t.Error("what was handed in is changed, or told")
	}
	if list[0].ID != 0 || list[1].ID != 1 || list[2].ID != 2 || !same(list[3:], []sect.Section{of(9, "spare")}) {
		t.Errorf("the list that was handed in is changed: %q", list)
	}
	if string(b) != front+"\x00\x02\x01n\x01\x02ab\x02\x00" {
		t.Errorf("two answers share memory: %q", b)
	}
	probe.Scribble(sect.Join())
	if string(sect.Join()) != front {
		t.Error("two answers of none share memory")
	}
}

func TestSplitLeavesAndKeepsNothingOfWhatIsHandedIn(t *testing.T) {
	for _, c := range whole() {
		in, unchanged := probe.Handed([]byte(front + c.bytes))
		first, _ := sect.Split(in)
		second, _ := sect.Split(in)
		for i := range first {
			probe.Scribble(first[i].Body)
			if !same(first[i+1:], c.l[i+1:]) {
				t.Errorf("%.60q: two bodies of one answer share memory", c.bytes)
			}
		}
		if !unchanged() {
			t.Errorf("%.60q: what was handed in is changed, or told", c.bytes)
		}
		probe.Scribble(in)
		if !same(second, c.l) {
			t.Errorf("%.60q: what is told shares memory", c.bytes)
		}
	}
}

func TestRefusalsAndUTF8LeaveWhatIsHandedIn(t *testing.T) {
	for _, s := range []string{"", "\x00as", "wrong front", front + "\x01", front + "\x01\x05ab", front + "\x0d\x00", front + "\x00\x01\x01", "ä\xff"} {
		in, unchanged := probe.Handed([]byte(s))
		sect.Split(in)
		sect.UTF8(in)
		if !unchanged() {
			t.Errorf("%q: what was handed in is changed", s)
		}
	}
}
