package probe_test

import (
	"testing"

	"cloakroom/api"
	"cloakroom/probe"
)

// pair reads two bytes that are one, as a layer's Take does.
func pair(b []byte) (v string, n int, e api.Errno) {
	if len(b) < 2 {
		return "", 0, api.ErrShort
	}
	if b[0] != b[1] {
		return "", 0, api.ErrForm
	}
	return string(b[:2]), 2, api.OK
}

func TestCursorReadsOneBehindTheOther(t *testing.T) {
	c := probe.Cursor{Bytes: []byte("abbcc")}
	first, second, third := byte(0), "", ""
	if e := probe.Met(func() { first, second, third = c.Octet(), probe.Read(&c, pair), probe.Read(&c, pair) }); e != api.OK {
		t.Errorf("error %d", e)
	}
	if first != 'a' || second != "bb" || third != "cc" || c.At != 5 {
		t.Errorf("read: %q, %q, %q, up to %d", first, second, third, c.At)
	}
}

func TestMetTellsTheFirstError(t *testing.T) {
	for name, x := range map[string]struct {
		in   string
		read func(c *probe.Cursor)
		want api.Errno
	}{
		"nothing":          {"a", func(c *probe.Cursor) { c.Octet() }, api.OK},
		"a byte too many":  {"a", func(c *probe.Cursor) { c.Octet(); c.Octet(); probe.Ask(false, api.ErrLong) }, api.ErrShort},
		"one of what read": {"ab", func(c *probe.Cursor) { probe.Read(c, pair); c.Octet() }, api.ErrForm},
		"behind the end":   {"a", func(c *probe.Cursor) { probe.Read(c, pair) }, api.ErrShort},
		"what is asked":    {"", func(c *probe.Cursor) { probe.Ask(true, api.ErrLong); probe.Ask(false, api.ErrProfile) }, api.ErrProfile},
	} {
		c := probe.Cursor{Bytes: []byte(x.in)}
		if e := probe.Met(func() { x.read(&c) }); e != x.want {
			t.Errorf("%s: error %d, want %d", name, e, x.want)
		}
	}
}

func TestMetLetsOtherPanicsThrough(t *testing.T) {
	defer func() {
		if met := recover(); met != "another" {
			t.Errorf("met: %v", met)
		}
	}()
	probe.Met(func() { panic("another") })
}
