package probe_test

import (
	"testing"

	"cloakroom/probe"
)

func TestApartSeesListsThatShareMemory(t *testing.T) {
	type part struct {
		Name string
		list []uint32
	}
	whole := []byte{1, 2, 3, 4}
	numbers := []uint32{1, 2, 3}
	for name, x := range map[string]struct {
		values []any
		want   bool
	}{
		"nothing":                   {nil, true},
		"one":                       {[]any{whole}, true},
		"two":                       {[]any{whole, []byte{1, 2, 3, 4}}, true},
		"one, twice":                {[]any{whole, whole}, false},
		"halves":                    {[]any{whole[:2:2], whole[2:]}, true},
		"halves, the first later":   {[]any{whole[2:], whole[:2:2]}, true},
		"halves that share a byte":  {[]any{whole[:3:3], whole[2:]}, false},
		"spare room":                {[]any{whole[:2], whole[2:]}, false},
		"nothing but spare room":    {[]any{whole[:0], whole[3:]}, false},
		"no bytes":                  {[]any{whole[4:], whole[4:], []byte{}, []byte{}, []struct{}{{}, {}}, []byte(nil)}, true},
		"one within the other":      {[]any{whole, whole[1:2:2]}, false},
		"two fields":                {[]any{part{"a", numbers[:1:1]}, part{"a", numbers[1:]}}, true},
		"two fields that share":     {[]any{part{"a", numbers[:1]}, part{"b", numbers[1:]}}, false},
		"lists of lists":            {[]any{[][]uint32{numbers[:1:1], numbers[1:2:2], numbers[2:]}}, true},
		"lists of lists that share": {[]any{[][]uint32{numbers[:1:1], numbers[1:2], numbers[2:]}}, false},
		"an array of lists":         {[]any{[2][]uint32{numbers, numbers}}, false},
		"a list of parts":           {[]any{[]part{{list: numbers}, {list: numbers}}}, false},
		"what is no list":           {[]any{1, "a", "a", nil, struct{}{}}, true},
	} {
		if got := probe.Apart(x.values...); got != x.want {
			t.Errorf("%s: %v", name, got)
		}
	}
}
