package probe_test

import (
	"slices"
	"testing"

	"cloakroom/probe"
)

func TestHandedSeesEachChange(t *testing.T) {
	list := []uint64{1, 2, 3}
	same, unchanged := probe.Handed(list)
	if !slices.Equal(same, list) || cap(same) == len(same) || !unchanged() {
		t.Fatalf("handed: %v", same)
	}
	same[1]++
	if unchanged() || list[1] != 2 {
		t.Error("a change is not seen, or is one of the list")
	}
	same, unchanged = probe.Handed(list)
	if _ = append(same, 4); unchanged() {
		t.Error("a change of spare room is not seen")
	}
	if none, unchanged := probe.Handed[byte](nil); len(none) != 0 || cap(none) == 0 || !unchanged() {
		t.Error("handed of none")
	}
}

func TestScribbleReachesSpareRoom(t *testing.T) {
	whole := []byte{1, 2, 3, 4}
	probe.Scribble(whole[1:2:3])
	if !slices.Equal(whole, []byte{1, 0xfd, 0xfc, 4}) {
		t.Errorf("scribbled: %x", whole)
	}
}

func TestRowsAreAllOfThem(t *testing.T) {
	var got []string
	probe.Rows("ab", 2, func(row []byte) { got = append(got, string(row)) })
	if want := []string{"", "a", "aa", "ab", "b", "ba", "bb"}; !slices.Equal(got, want) {
		t.Errorf("rows: %q", got)
	}
}
