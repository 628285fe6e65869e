package val_test

import (
	"slices"
	"testing"

	"cloakroom/api"
	"cloakroom/probe"
)

// rows holds Body of all rows of at most longest of these instructions, and an end, against the second reading, in a function that gives these types. It asks that some rows fit, and some not, for else it would see nothing.
func rows(t *testing.T, gives string, longest int, letters ...api.Instr) {
	t.Helper()
	w := wise{types: world().Types, gives: gives, known: straights()}
	m, f := world(), typed("", gives)
	names := make([]byte, len(letters))
	for i := range names {
		names[i] = byte(i)
	}
	count := map[bool]int{}
	probe.Rows(string(names), longest, func(row []byte) {
		c := api.Code{Body: make([]api.Instr, 0, len(row)+1)}
		for _, i := range row {
			c.Body = append(c.Body, letters[i])
		}
		c.Body = append(c.Body, end)
		fits := w.fits(c.Body)
		count[fits]++
		hold(t, m, f, c, fits)
	})
	if count[true] < 100 || count[false] < 100 {
		t.Errorf("%d rows fit, %d do not", count[true], count[false])
	}
}

// The world's types, by their numbers.
const (
	type0    = 0 // nothing to nothing
	typeI    = 3 // i32 to nothing
	typeII   = 4 // i32 to i32
	typePair = 5 // nothing to i64, i32
)

func TestAllShortRowsWithoutBlocks(t *testing.T) {
	for _, gives := range []string{"", i32, i64 + i32} {
		rows(t, gives, 4, in(0x41), in(0x42), in(0x00), in(0x1a), in(0x1b), in(0x6a), in(0x50), in(0x0c), in(0x0d), table(0, 0), in(0x0f))
	}
	rows(t, i32, 5, in(0x41), in(0x42), in(0x00), in(0x1a), in(0x1b), in(0x0d))
}

func TestAllShortRowsWithReferences(t *testing.T) {
	rows(t, i32, 4, in(0x41), in(0x00), in(0x1a), in(0x1b), in(0xd0, api.Func), in(0xd0, api.Ext), in(0xd1), in(0x1c, api.Func), in(0x1c, api.Ext), in(0x1c, api.I32))
	rows(t, fun, 4, in(0x41), in(0x00), in(0x1b), in(0xd0, api.Func), in(0xd0, api.Ext), in(0x1c, api.Func), in(0x0c), in(0x0d), in(0x0f))
}

func TestAllShortRowsWithBlocks(t *testing.T) {
	for _, gives := range []string{"", i32} {
		rows(t, gives, 4, begin(2, -64), begin(2, -1), begin(2, typeII), begin(3, -1), begin(3, typeI), begin(3, typeII), in(0x0b), in(0x41), in(0x1a), in(0x00), in(0x0c, 0), in(0x0c, 1), in(0x0d, 0), in(0x0d, 1))
	}
	rows(t, i32, 6, begin(2, -1), begin(3, typeII), in(0x0b), in(0x41), in(0x0c, 0), in(0x0d, 1), in(0x00))
}

func TestAllShortRowsWithIfs(t *testing.T) {
	for _, gives := range []string{"", i32} {
		rows(t, gives, 5, begin(4, -64), begin(4, -1), begin(4, typeI), begin(4, typeII), in(0x05), in(0x0b), in(0x41), in(0x1a), in(0x00))
	}
	rows(t, i32, 6, begin(4, -1), begin(4, typeII), in(0x05), in(0x0b), in(0x41), in(0x00))
	rows(t, i32, 6, begin(4, typeII), in(0x05), in(0x0b), in(0x41), in(0x0c, 0), in(0x0d, 0), in(0x0f))
}

func TestAllShortRowsWithTables(t *testing.T) {
	rows(t, i32, 5, begin(2, -1), begin(2, -2), begin(3, typeII), in(0x00), in(0x0b), in(0x41), in(0x42), table(0, 1), table(1, 0, 1), table(1))
	rows(t, i64+i32, 5, begin(2, typePair), begin(2, typeI), in(0x00), in(0x0b), in(0x41), in(0x42), table(0, 1), table(1, 0), in(0x1b))
}

func TestWhatIsNoBodyFitsNowhere(t *testing.T) {
	for name, l := range map[string][]api.Instr{
		"nothing":                 nil,
		"no end":                  {in(0x01)},
		"no end behind a return":  {in(0x0f)},
		"a block's end alone":     {begin(2, -64), end},
		"two ends":                {end, end},
		"more behind the end":     {end, in(0x01), end},
		"an else alone":           {in(0x05), end},
		"an else in a block":      {begin(2, -64), in(0x05), end, end},
		"an else in a loop":       {begin(3, -64), in(0x05), end, end},
		"a second else":           {in(0x41), begin(4, -64), in(0x05), in(0x05), end, end},
		"a second else, nothing":  {in(0x00), begin(4, -64), in(0x05), in(0x00), in(0x05), end, end},
		"an end too many, whence": {in(0x00), end, end},
	} {
		t.Run(name, func(t *testing.T) {
			hold(t, world(), typed("", ""), api.Code{Body: l}, false)
			hold(t, api.Module{}, typed("", ""), api.Code{Body: l}, false)
		})
	}
	hold(t, api.Module{}, typed("", ""), body(), true)
}

func TestAnEndLeavesJustTheResults(t *testing.T) {
	all := []string{"", i32, i64, fun, ext, i32 + i64, i64 + i32, i32 + i32, fun + ext + i64}
	for _, left := range all {
		for _, gives := range all {
			m := api.Module{Types: []api.FuncType{typed("", gives), typed(left, gives)}}
			own := gets(0, len(left))
			fits := left == gives
			hold(t, m, typed(left, gives), body(own...), fits)
			hold(t, m, typed(left, gives), body(append(own, in(0x0f))...), fits || endsWith(left, gives))
			for _, op := range []int{0x02, 0x03, 0x04} {
				within := append([]api.Instr{in(0x41)}, begin(op, 0))
				if op != 0x04 {
					within = within[1:]
				}
				within = append(within, own...)
				if op == 0x04 {
					within = append(append(within, in(0x05)), own...)
				}
				hold(t, m, typed(left, gives), body(append(within, end)...), fits)
				// what a block takes stands in it, and is left
				through := append(slices.Clone(own), in(0x41), begin(op, 1), end)
				if op != 0x04 {
					through = append(slices.Clone(own), begin(op, 1), end)
				}
				hold(t, m, typed(left, gives), body(through...), fits)
			}
		}
	}
}

func endsWith(left, gives string) bool {
	return len(left) >= len(gives) && left[len(left)-len(gives):] == gives
}

// TestTypesOfBlocks: each number that a block's type may be, and many that it may not.
func TestTypesOfBlocks(t *testing.T) {
	gives := map[int]string{-64: "", -1: i32, -2: i64, -16: fun, -17: ext, 0: "", 1: i64 + i32, 2: i32}
	m := api.Module{Types: []api.FuncType{typed("", ""), typed("", i64+i32), typed("", i32)}}
	var types []int
	for x := -300; x <= 300; x++ {
		types = append(types, x)
	}
	types = append(types, 1<<31, 1<<32, 1<<32+1, 1<<32-1, 1<<33-1, 1<<63-1, -1<<63, -1<<32, -1<<32-1, -65-1<<8, -1<<31)
	for _, x := range types {
		g, ok := gives[x]
		for _, op := range []int{0x02, 0x03} {
			hold(t, m, typed("", g), body(begin(op, x), in(0x00), end), ok)
		}
		hold(t, m, typed("", g), body(in(0x41), begin(0x04, x), in(0x00), in(0x05), in(0x00), end), ok)
		hold(t, m, typed("", g), body(in(0x00), begin(0x04, x), in(0x00), in(0x05), in(0x00), end), ok)
		hold(t, m, typed("", ""), body(in(0x00), begin(0x02, x), in(0x00), end, in(0x00)), ok)
		hold(t, m, typed("", g+i32), body(begin(0x02, x), in(0x00), end, in(0x41)), ok)
		hold(t, m, typed("", g+i32), body(begin(0x02, x), in(0x00), end), false)
		hold(t, api.Module{}, typed("", g), body(begin(0x02, x), in(0x00), end), ok && x < 0)
	}
}

func TestAnIfTakesItsQuestionAlone(t *testing.T) {
	for _, x := range []string{i32, i64, fun, ext} {
		holdOn(t, world(), begin(0x02, type0), x, x, false)
		hold(t, world(), typed(x, ""), body(in(0x20, 0), begin(0x04, -64), end), x == i32)
		hold(t, world(), typed(x, i32), body(in(0x41), in(0x20, 0), begin(0x04, typeII), end), x == i32)
		hold(t, world(), typed(x, i32), body(in(0x20, 0), in(0x41), begin(0x04, typeII), end), x == i32)
		hold(t, world(), typed(x, ""), body(in(0x00), in(0x20, 0), begin(0x04, -64), end), x == i32)
	}
	hold(t, world(), typed("", ""), body(begin(0x04, -64), end), false)
	hold(t, world(), typed("", ""), body(in(0x00), begin(0x04, -64), end), true)
	hold(t, world(), typed("", ""), body(in(0x41), begin(0x02, -64), begin(0x04, -64), end, end), false)
}

// TestAnIfWithoutElseGivesWhatItTakes: nothing that stands in it may make up for it.
func TestAnIfWithoutElseGivesWhatItTakes(t *testing.T) {
	all := []string{"", i32, i64, fun, i32 + i64, i64 + i32, i32 + i32}
	for _, takes := range all {
		for _, gives := range all {
			m := api.Module{Types: []api.FuncType{typed(takes, gives)}}
			f := typed(takes, gives)
			own := append(gets(0, len(takes)), in(0x41), begin(0x04, 0), in(0x00))
			hold(t, m, f, body(append(own, end)...), takes == gives)
			hold(t, m, f, body(append(slices.Clone(own), in(0x05), in(0x00), end)...), true)
			hold(t, m, f, body(append(slices.Clone(own), in(0x05), end)...), takes == gives)
			hold(t, m, f, body(append([]api.Instr{in(0x00), begin(0x04, 0), in(0x00)}, end)...), takes == gives)
		}
	}
}

// TestBranchesTakeAlong: to a block its results, to a loop its params, to the body its own.
func TestBranchesTakeAlong(t *testing.T) {
	m := api.Module{Types: []api.FuncType{typed(i64, ext), typed(fun, i32)}}
	// x stands within a block or loop of fun to i32, that within one of i64 to ext, that within a body that gives i64, i32.
	within := func(op int, given []api.Instr, x ...api.Instr) api.Code {
		return body(slices.Concat(
			[]api.Instr{in(0x20, 0), begin(op, 0), in(0x1a), in(0x20, 1), begin(op, 1), in(0x1a)},
			given, x,
			[]api.Instr{in(0x00), end, in(0x00), end, in(0x00)})...)
	}
	f := typed(i64+fun+i32+ext, i64+i32)
	place := map[byte]uint32{api.I64: 0, api.Func: 1, api.I32: 2, api.Ext: 3}
	question := in(0x20, 2)
	for op, labels := range map[int][]string{0x02: {i32, ext, i64 + i32}, 0x03: {fun, i64, i64 + i32}} {
		for _, given := range []string{"", i32, i64, fun, ext, i64 + i32, i32 + i64, ext + i32, fun + fun} {
			var push []api.Instr
			for i := range len(given) {
				push = append(push, in(0x20, place[given[i]]))
			}
			for depth := range uint32(5) {
				fits := depth < 3 && endsWith(given, labels[min(depth, 2)])
				hold(t, m, f, within(op, push, in(0x0c, depth)), fits)
				hold(t, m, f, within(op, push, question, in(0x0d, depth)), fits)
				hold(t, m, f, within(op, push, question, table(depth)), fits)
				hold(t, m, f, within(op, push, question, table(depth, depth, depth)), fits)
			}
			hold(t, m, f, within(op, push, in(0x0f)), endsWith(given, i64+i32))
		}
	}
}

// TestWhatBrIfLeaves: of just the label's types, where nothing comes, too.
func TestWhatBrIfLeaves(t *testing.T) {
	for _, x := range []string{i32, i64, fun, ext} {
		holdOn(t, world(), in(0x0d), x+i32, x, true)
		hold(t, world(), typed(x, x), body(in(0x00), in(0x41), in(0x0d)), true)
		hold(t, world(), typed(x, x), body(in(0x00), in(0x0d)), true)
		hold(t, world(), typed(x, x), body(in(0x00), in(0x0d), in(0xa7), in(0x00)), x == i64)
		hold(t, world(), typed(x, x), body(in(0x00), in(0x0d), in(0x45), in(0x00)), x == i32)
		hold(t, world(), typed(x, x), body(in(0x00), in(0x0d), in(0xd1), in(0x00)), x == fun || x == ext)
	}
}

// TestTablesAskForAsManyValues: label by label, and where nothing comes a value may be of another type for each.
func TestTablesAskForAsManyValues(t *testing.T) {
	m := world()
	f := typed("", "")
	around := func(x ...api.Instr) api.Code { // labels: 0 i64 and i32, 1 i32, 2 i64, 3 nothing
		l := append([]api.Instr{begin(2, -2), begin(2, -1), begin(2, typePair), in(0x00)}, x...)
		return body(append(l, end, in(0x00), end, in(0x00), end, in(0x1a))...)
	}
	for name, x := range map[string]struct {
		l    []api.Instr
		fits bool
	}{
		"one label":                       {[]api.Instr{table(0)}, true},
		"the same twice":                  {[]api.Instr{table(2, 2)}, true},
		"two of one value":                {[]api.Instr{table(1, 2)}, true},
		"two of one value, the other way": {[]api.Instr{table(2, 1)}, true},
		"many of one value":               {[]api.Instr{table(2, 1, 2, 1, 1)}, true},
		"one value and none":              {[]api.Instr{table(2, 3)}, false},
		"no value and one":                {[]api.Instr{table(3, 2)}, false},
		"two values and one":              {[]api.Instr{table(0, 1)}, false},
		"one value and two":               {[]api.Instr{table(1, 0)}, false},
		"the last but one of two values":  {[]api.Instr{table(1, 1, 2, 0)}, false},
		"no value, twice":                 {[]api.Instr{table(3, 3)}, true},
		"none there":                      {[]api.Instr{table(4)}, false},
		"one that is not there":           {[]api.Instr{table(3, 3, 4)}, false},
		"one that is far away":            {[]api.Instr{table(3, 1<<32-1)}, false},
		"a value of one of two":           {[]api.Instr{in(0x42), in(0x41), table(1, 2)}, false},
		"a value of the other of two":     {[]api.Instr{in(0x41), in(0x41), table(1, 2)}, false},
		"a value of the last one":         {[]api.Instr{in(0x42), in(0x41), table(2, 2)}, true},
		"a question of another type":      {[]api.Instr{in(0x42), table(1, 2)}, false},
		"what was chosen may be both":     {[]api.Instr{in(0x41), in(0x1b), in(0x41), table(1, 2)}, true},
		"one of what was chosen":          {[]api.Instr{in(0x42), in(0x41), in(0x1b), in(0x41), table(1, 2)}, false},
		"whatever comes behind":           {[]api.Instr{table(1, 2), in(0x7c), in(0x6a)}, false},
		"whatever fits behind":            {[]api.Instr{table(1, 2), in(0x7c), in(0xa7), in(0x42), in(0x00)}, true},
		"more beneath the values":         {[]api.Instr{in(0xd0, api.Func), in(0x41), in(0x41), table(1)}, true},
	} {
		t.Run(name, func(t *testing.T) { hold(t, m, f, around(x.l...), x.fits) })
	}
}

// TestNothingIsKnownUpToTheEndOfABlock: what may be whatever is so up to its end, and to an else.
func TestNothingIsKnownUpToTheEndOfABlock(t *testing.T) {
	for _, stop := range [][]api.Instr{
		{in(0x00)}, {in(0x0c, 1)}, {in(0x41), table(1, 1)}, {in(0x0f)},
	} {
		within := func(op, t int, behind ...api.Instr) []api.Instr {
			return append(append([]api.Instr{in(0x41), begin(op, t)}, stop...), behind...)
		}
		f := typed("", "")
		hold(t, world(), f, body(within(0x04, -64, in(0x6a), in(0x1a), end)...), true)
		hold(t, world(), f, body(within(0x04, -64, in(0x6a), end)...), false)
		hold(t, world(), f, body(within(0x04, -1, in(0x05), in(0x41), end, in(0x1a))...), true)
		hold(t, world(), f, body(within(0x04, -1, in(0x05), end, in(0x1a))...), false)
		hold(t, world(), f, body(within(0x04, -1, in(0x05), in(0x41), end)...), false)
		hold(t, world(), f, body(within(0x04, -64, end, in(0x1a))...), false)
		hold(t, world(), f, body(within(0x04, -64, end, in(0x6a), in(0x1a))...), false)
		hold(t, world(), f, body(within(0x02, -1, end, in(0x1a), in(0x1a))...), true)
		hold(t, world(), f, body(within(0x02, -1, end, in(0x1a))...), false)
		hold(t, world(), f, body(within(0x02, -64, begin(0x02, -64), in(0x1a), end, end, in(0x1a))...), false)
		hold(t, world(), f, body(within(0x02, -64, begin(0x02, typeI), in(0x1a), end, end, in(0x1a))...), true)
		hold(t, world(), f, body(within(0x02, -64, in(0x42), begin(0x02, typeI), in(0x1a), end, end, in(0x1a))...), false)
	}
}

// TestDeeperAndLongerBodiesThanModulesHave: that is no matter of types.
func TestDeeperAndLongerBodiesThanModulesHave(t *testing.T) {
	for _, n := range []int{1, 32, 33, 599, 600, 601, 1 << 16} {
		for _, op := range []int{0x02, 0x03} {
			deep := slices.Repeat([]api.Instr{begin(op, typeII)}, n)
			ends := slices.Repeat([]api.Instr{end}, n)
			l := slices.Concat([]api.Instr{in(0x41)}, deep, []api.Instr{in(0x0c, uint32(n))}, ends)
			hold(t, world(), typed("", i32), body(l...), true)
			l[n+1].A++
			hold(t, world(), typed("", i32), body(l...), false)
		}
		long := slices.Repeat([]api.Instr{in(0x41), in(0x1a)}, n)
		hold(t, world(), typed("", ""), body(long...), true)
		hold(t, world(), typed("", ""), body(append(long, in(0x1a))...), false)
		many := slices.Repeat([]uint32{0}, n)
		hold(t, world(), typed("", ""), body(in(0x41), table(0, many...)), true)
		many[n-1] = 1
		hold(t, world(), typed("", ""), body(in(0x41), table(0, many...)), false)
	}
}
