package ctrl_test

import (
	"maps"
	"math"
	"slices"
	"testing"

	"cloakroom/api"
	"cloakroom/code"
	"cloakroom/ctrl"
	"cloakroom/op"
	"cloakroom/probe"
)

// body lays out instructions of these Ops.
func body(ops ...int) (l []api.Instr) {
	for _, x := range ops {
		l = append(l, api.Instr{Op: x})
	}
	return l
}

// accepts tells if Blocks and Depth of l are not these.
func accepts(t *testing.T, l []api.Instr, want map[int]api.Block, depth int) {
	t.Helper()
	if got, ok := ctrl.Blocks(l); !ok || !maps.Equal(got, want) {
		t.Errorf("Blocks(%.99v): %.99v, %v, want %.99v", l, got, ok, want)
	}
	if got := ctrl.Depth(l); got != depth {
		t.Errorf("Depth(%.99v): %d, want %d", l, got, depth)
	}
}

// refuses tells if Blocks and Depth of l answer anything.
func refuses(t *testing.T, l []api.Instr) {
	t.Helper()
	if got, ok := ctrl.Blocks(l); ok || len(got) != 0 {
		t.Errorf("Blocks(%.99v): %.99v, %v", l, got, ok)
	}
	if got := ctrl.Depth(l); got != 0 {
		t.Errorf("Depth(%.99v): %d", l, got)
	}
}

func TestBlocksOfBodies(t *testing.T) {
	for name, x := range map[string]struct {
		ops   []int
		want  map[int]api.Block
		depth int
	}{
		"an end":              {[]int{0x0b}, nil, 0},
		"no blocks":           {[]int{0x01, 0x41, 0x1a, 0x0b}, nil, 0},
		"a block":             {[]int{0x02, 0x0b, 0x0b}, map[int]api.Block{0: {Else: -1, End: 1}}, 1},
		"a loop":              {[]int{0x03, 0x01, 0x0b, 0x0b}, map[int]api.Block{0: {Else: -1, End: 2}}, 1},
		"an if":               {[]int{0x01, 0x04, 0x0b, 0x0b}, map[int]api.Block{1: {Else: -1, End: 2}}, 1},
		"an if with an else":  {[]int{0x04, 0x05, 0x0b, 0x0b}, map[int]api.Block{0: {Else: 1, End: 2}}, 1},
		"with more in both":   {[]int{0x01, 0x04, 0x01, 0x01, 0x05, 0x01, 0x0b, 0x01, 0x0b}, map[int]api.Block{1: {Else: 4, End: 6}}, 1},
		"two, one by one":     {[]int{0x02, 0x0b, 0x03, 0x0b, 0x0b}, map[int]api.Block{0: {Else: -1, End: 1}, 2: {Else: -1, End: 3}}, 1},
		"two, one in another": {[]int{0x02, 0x03, 0x0b, 0x0b, 0x0b}, map[int]api.Block{0: {Else: -1, End: 3}, 1: {Else: -1, End: 2}}, 2},
		"an else of the outer if": {
			[]int{0x04, 0x04, 0x0b, 0x05, 0x0b, 0x0b}, map[int]api.Block{0: {Else: 3, End: 4}, 1: {Else: -1, End: 2}}, 2,
		},
		"an else of the inner if": {
			[]int{0x04, 0x04, 0x05, 0x0b, 0x0b, 0x0b}, map[int]api.Block{0: {Else: -1, End: 4}, 1: {Else: 2, End: 3}}, 2,
		},
		"an if behind an else, and its else": {
			[]int{0x04, 0x05, 0x04, 0x05, 0x0b, 0x0b, 0x0b}, map[int]api.Block{0: {Else: 1, End: 5}, 2: {Else: 3, End: 4}}, 2,
		},
		"an else behind a block that is closed": {
			[]int{0x04, 0x02, 0x0b, 0x05, 0x03, 0x0b, 0x0b, 0x0b},
			map[int]api.Block{0: {Else: 3, End: 6}, 1: {Else: -1, End: 2}, 4: {Else: -1, End: 5}}, 2,
		},
		"an if in a block in a loop": {
			[]int{0x03, 0x02, 0x04, 0x05, 0x0b, 0x0b, 0x0b, 0x0b},
			map[int]api.Block{0: {Else: -1, End: 6}, 1: {Else: -1, End: 5}, 2: {Else: 3, End: 4}}, 3,
		},
		"the deepest comes first": {
			[]int{0x02, 0x02, 0x02, 0x0b, 0x0b, 0x0b, 0x02, 0x0b, 0x0b},
			map[int]api.Block{0: {Else: -1, End: 5}, 1: {Else: -1, End: 4}, 2: {Else: -1, End: 3}, 6: {Else: -1, End: 7}}, 3,
		},
		"the deepest comes last": {
			[]int{0x02, 0x0b, 0x02, 0x02, 0x0b, 0x0b, 0x0b},
			map[int]api.Block{0: {Else: -1, End: 1}, 2: {Else: -1, End: 5}, 3: {Else: -1, End: 4}}, 2,
		},
	} {
		t.Run(name, func(t *testing.T) { accepts(t, body(x.ops...), x.want, x.depth) })
	}
}

func TestBlocksRefusesWhatIsNoBody(t *testing.T) {
	for name, ops := range map[string][]int{
		"nothing":                       {},
		"no end":                        {0x01},
		"a block without an end":        {0x02},
		"a block with the only end":     {0x02, 0x0b},
		"a loop with the only end":      {0x03, 0x0b},
		"an if with the only end":       {0x04, 0x0b},
		"an else and the only end":      {0x04, 0x05, 0x0b},
		"two blocks with two ends":      {0x02, 0x03, 0x0b, 0x0b},
		"a nop behind the end":          {0x0b, 0x01},
		"an end behind the end":         {0x0b, 0x0b},
		"a block behind the end":        {0x0b, 0x02, 0x0b},
		"a body behind the end":         {0x0b, 0x02, 0x0b, 0x0b},
		"an end behind the blocks' end": {0x02, 0x0b, 0x0b, 0x0b},
		"an else behind the end":        {0x0b, 0x05},
		"an else in none":               {0x05, 0x0b},
		"an else in a block":            {0x02, 0x05, 0x0b, 0x0b},
		"an else in a loop":             {0x03, 0x05, 0x0b, 0x0b},
		"an else behind an else":        {0x04, 0x05, 0x05, 0x0b, 0x0b},
		"an else of an if further out":  {0x04, 0x02, 0x05, 0x0b, 0x0b, 0x0b},
		"an else of an if that ended":   {0x04, 0x0b, 0x05, 0x0b},
		"an else at an outer depth":     {0x02, 0x04, 0x0b, 0x05, 0x0b, 0x0b},
		"two elses around an if":        {0x04, 0x05, 0x04, 0x0b, 0x05, 0x0b, 0x0b},
		"two elses, the inner if's too": {0x04, 0x05, 0x04, 0x05, 0x0b, 0x05, 0x0b, 0x0b},
		"two elses around a loop":       {0x04, 0x05, 0x03, 0x0b, 0x05, 0x0b, 0x0b},
	} {
		t.Run(name, func(t *testing.T) { refuses(t, body(ops...)) })
	}
}

// asBody works out by the chapters' words what Blocks and Depth answer: plainly, one call for each block.
type asBody struct {
	l     []api.Instr
	at    int
	found map[int]api.Block
	depth int
}

func (b *asBody) upToEnd(first, depth int) (ok bool) {
	b.depth = max(b.depth, depth)
	elseAt := -1
	for ; b.at < len(b.l); b.at++ {
		place := b.at
		switch b.l[place].Op {
		case 0x02, 0x03, 0x04:
			b.at++
			if !b.upToEnd(place, depth+1) {
				return false
			}
		case 0x05:
			if depth == 0 || b.l[first].Op != 0x04 || elseAt >= 0 {
				return false
			}
			elseAt = place
		case 0x0b:
			if depth > 0 {
				b.found[first] = api.Block{Else: elseAt, End: place}
			}
			return true
		}
	}
	return false
}

// hold holds Blocks and Depth against the chapters' words.
func hold(t *testing.T, l []api.Instr) {
	t.Helper()
	b := asBody{l: l, found: map[int]api.Block{}}
	if b.upToEnd(-1, 0) && b.at == len(l)-1 {
		accepts(t, l, b.found, b.depth)
	} else {
		refuses(t, l)
	}
}

// rows hands all rows of at most longest instructions of these Ops to use.
func rows(ops string, longest int, use func(l []api.Instr)) {
	probe.Rows(ops, longest, func(row []byte) {
		var l []api.Instr
		for _, x := range row {
			l = append(l, api.Instr{Op: int(x)})
		}
		use(l)
	})
}

func TestBlocksOfAllShortRows(t *testing.T) {
	rows("\x01\x02\x03\x04\x05\x0b", 7, func(l []api.Instr) { hold(t, l) })
	rows("\x02\x04\x05\x0b", 9, func(l []api.Instr) { hold(t, l) })
}

// TestBlocksAgreesWithCode: what may stand there is as code has it.
func TestBlocksAgreesWithCode(t *testing.T) {
	rows("\x01\x03\x04\x05\x0b", 7, func(l []api.Instr) {
		b := withoutTypes(l)
		_, n, e := code.Take(b)
		if _, ok := ctrl.Blocks(l); ok != (e == api.OK && n == len(b)) {
			t.Errorf("Blocks(%v): %v, Take: %d of %d bytes, error %d", l, ok, n, len(b), e)
		}
	})
}

// withoutTypes are the bytes of l, whose blocks take and give nothing.
func withoutTypes(l []api.Instr) (b []byte) {
	for _, x := range l {
		if x.Op >= 0x02 && x.Op <= 0x04 {
			x.T = -64
		}
		b = code.Put(b, x)
	}
	return b
}

// TestEachBlocksEndStandsBehindIt: and its else in between.
func TestEachBlocksEndStandsBehindIt(t *testing.T) {
	rows("\x01\x02\x04\x05\x0b", 7, func(l []api.Instr) {
		blocks, _ := ctrl.Blocks(l)
		for at, b := range blocks {
			if b.End <= at || l[b.End].Op != 0x0b {
				t.Errorf("Blocks(%v): %d ends at %d", l, at, b.End)
			}
			if b.Else != -1 && (b.Else <= at || b.Else >= b.End || l[b.Else].Op != 0x05) {
				t.Errorf("Blocks(%v): the else of %d at %d", l, at, b.Else)
			}
		}
	})
}

// TestOtherInstructionsNeitherOpenNorClose: those whose bits are partly a block's, too.
func TestOtherInstructionsNeitherOpenNorClose(t *testing.T) {
	others := []int{math.MinInt, math.MinInt32, -1, -5, 0x102, 0x103, 0x104, 0x105, 0x10b, 0xfc02, 0xfc05, 0xfc0b, 0xfd0b, 0x1000b, 1<<32 + 2, 1<<32 + 11, math.MaxInt}
	for x := range 0x100 {
		others = append(others, x)
	}
	for _, x := range append(others, op.Names()...) {
		if slices.Contains([]int{0x02, 0x03, 0x04, 0x05, 0x0b}, x) {
			continue
		}
		accepts(t, body(x, 0x0b), nil, 0)
		accepts(t, body(x, 0x02, x, 0x0b, x, 0x0b), map[int]api.Block{1: {Else: -1, End: 3}}, 1)
		accepts(t, body(0x04, x, 0x05, x, 0x0b, 0x0b), map[int]api.Block{0: {Else: 2, End: 4}}, 1)
		refuses(t, body(x))
		refuses(t, body(0x0b, x))
		refuses(t, body(0x02, 0x0b, x))
		refuses(t, body(x, 0x05, 0x0b))
	}
}

// TestWhatStandsBehindAnInstructionIsNotAsked: where blocks end hangs on Ops alone.
func TestWhatStandsBehindAnInstructionIsNotAsked(t *testing.T) {
	for _, part := range []api.Instr{
		{A: 0x0b, B: 0x05}, {A: math.MaxUint32, B: math.MaxUint32}, {N: math.MaxUint64}, {L: []uint32{0x02, 0x0b}}, {T: -64}, {T: 5}, {T: math.MinInt},
	} {
		l := body(0x04, 0x01, 0x05, 0x0b, 0x0b)
		for at := range l {
			x := part
			x.Op = l[at].Op
			l[at] = x
		}
		accepts(t, l, map[int]api.Block{0: {Else: 2, End: 3}}, 1)
		refuses(t, l[:4])
		refuses(t, l[2:])
	}
}

// TestBlocksAsDeepAndAsManyAsTheyCome: more than a module may have are no fault of a body.
func TestBlocksAsDeepAndAsManyAsTheyCome(t *testing.T) {
	for _, n := range []int{1, 2, 31, 32, 33, 34, 299, 300, 599, 600, 601, 1 << 16} {
		for _, first := range []int{0x02, 0x03, 0x04} {
			nested, row := map[int]api.Block{}, map[int]api.Block{}
			for i := range n {
				nested[i] = api.Block{Else: -1, End: 2*n - 1 - i}
				row[2*i] = api.Block{Else: -1, End: 2*i + 1}
			}
			ends := slices.Repeat([]int{0x0b}, n+1)
			deep := body(append(slices.Repeat([]int{first}, n), ends...)...)
			accepts(t, deep, nested, n)
			refuses(t, deep[:2*n])
			refuses(t, deep[1:])
			refuses(t, append(deep, api.Instr{Op: 0x01}))
			accepts(t, body(append(slices.Repeat([]int{first, 0x0b}, n), 0x0b)...), row, 1)
		}
		long := body(append(slices.Repeat([]int{0x01}, n), 0x0b)...)
		accepts(t, long, nil, 0)
		refuses(t, long[:n])
	}
}

func TestElsesOfManyIfs(t *testing.T) {
	for _, n := range []int{1, 2, 32, 33, 600} {
		ops := slices.Repeat([]int{0x04}, n)
		want := map[int]api.Block{}
		for i := range n {
			ops = append(ops, 0x05, 0x01, 0x0b)
			want[n-1-i] = api.Block{Else: n + 3*i, End: n + 3*i + 2}
		}
		accepts(t, body(append(ops, 0x0b)...), want, n)
		refuses(t, body(append(ops, 0x05, 0x0b)...))
	}
}

func TestBlocksLeavesWhatIsHandedIn(t *testing.T) {
	before := body(0x04, 0x02, 0x0b, 0x05, 0x0b, 0x03, 0x0b, 0x01, 0x0b, 0x02, 0x0b, 0x0b)
	for size := range before {
		whole := slices.Clone(before)
		ctrl.Blocks(whole[:size])
		ctrl.Depth(whole[:size])
		if !code.Same(whole, before) {
			t.Errorf("of %d: what was handed in is changed: %v", size, whole)
		}
	}
}

func TestBlocksAreNewEachTime(t *testing.T) {
	l := body(0x04, 0x05, 0x0b, 0x02, 0x0b, 0x0b)
	want := map[int]api.Block{0: {Else: 1, End: 2}, 3: {Else: -1, End: 4}}
	first, _ := ctrl.Blocks(l)
	second, _ := ctrl.Blocks(l)
	clear(first)
	if !maps.Equal(second, want) {
		t.Errorf("two answers are one: %v", second)
	}
	clear(l)
	if !maps.Equal(second, want) {
		t.Errorf("what is told hangs on what was handed in: %v", second)
	}
	accepts(t, body(0x04, 0x05, 0x0b, 0x02, 0x0b, 0x0b), want, 1)
}
