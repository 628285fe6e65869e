package probe

import (
	"cmp"
	"reflect"
	"slices"
)

// Apart tells whether no two of all lists that these values reach share memory, their spare room too.
func Apart(values ...any) bool {
	var all []stretch
	for _, v := range values {
		all = reach(all, reflect.ValueOf(v))
	}
	slices.SortFunc(all, func(a, b stretch) int { return cmp.Compare(a.from, b.from) })
	for i := 1; i < len(all); i++ {
		if all[i].from < all[i-1].to {
			return false
		}
	}
	return true
}

// stretch is where the memory of a list begins and ends.
type stretch struct{ from, to uintptr }

// reach adds the memory of v's lists to all. What pointers and maps lead to is left out.
func reach(all []stretch, v reflect.Value) []stretch {
	switch v.Kind() {
	case reflect.Struct:
		for i := range v.NumField() {
			all = reach(all, v.Field(i))
		}
	case reflect.Array:
		for i := range v.Len() {
			all = reach(all, v.Index(i))
		}
	case reflect.Slice:
		if size := uintptr(v.Cap()) * v.Type().Elem().Size(); size > 0 {
			all = append(all, stretch{v.Pointer(), v.Pointer() + size})
		}
		for i := range v.Len() {
			all = reach(all, v.Index(i))
		}
	}
	return all
}
