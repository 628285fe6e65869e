package val_test

import (
	"strings"

	"cloakroom/api"
	"cloakroom/ctrl"
)

// This is a second reading of the chapter: not by what is whatever, but by guesses. Where nothing comes, each value that is asked for may be of each of these types; a body fits if one row of guesses does.

// some is of no type, and fits each: a guess, too.
const some = "?"

const guesses = i32 + i64 + fun + ext + some

// path is what may stand there: the types that were met or guessed, and may more be guessed beneath them?
type path struct {
	stack string
	free  bool
}

// takes answers the way to take values of these types off, if there is one.
func (p path) takes(types string) []path {
	if types == "" {
		return []path{p}
	}
	last := types[len(types)-1:]
	rest := types[:len(types)-1]
	if p.stack == "" {
		if !p.free {
			return nil
		}
		return p.takes(rest)
	}
	top := p.stack[len(p.stack)-1:]
	if top != last && top != some {
		return nil
	}
	return path{p.stack[:len(p.stack)-1], p.free}.takes(rest)
}

func (p path) puts(types string) path { return path{p.stack + types, p.free} }

// tree is an instruction with what stands in it.
type tree struct {
	x         api.Instr
	then, alt []tree
}

// grow reads l from place on, up to the end or else that closes what was begun there.
func grow(l []api.Instr, place int) (list []tree, stop int) {
	for l[place].Op != 0x0b && l[place].Op != 0x05 {
		node := tree{x: l[place]}
		place++
		if node.x.Op >= 0x02 && node.x.Op <= 0x04 {
			node.then, place = grow(l, place)
			if l[place].Op == 0x05 {
				node.alt, place = grow(l, place+1)
			}
			place++
		}
		list = append(list, node)
	}
	return list, place
}

// wise holds bodies of a module without functions against the chapter's words.
type wise struct {
	types []api.FuncType
	gives string // of the body itself
	known []straight
}

func (w wise) fits(l []api.Instr) bool {
	if _, ok := ctrl.Blocks(l); !ok {
		return false
	}
	list, _ := grow(l, 0)
	return w.ends(list, "", w.gives, []string{w.gives})
}

// ends tells whether list makes just gives out of takes.
func (w wise) ends(list []tree, takes, gives string, labels []string) bool {
	paths := map[path]int{{stack: takes}: 1}
	for _, node := range list {
		next := map[path]int{}
		for p := range paths {
			for _, q := range w.step(p, node, labels) {
				next[q] = 1
			}
		}
		paths = next
	}
	for p := range paths {
		for _, q := range p.takes(gives) {
			if q.stack == "" {
				return true
			}
		}
	}
	return false
}

// step answers all that may stand there behind node.
func (w wise) step(p path, node tree, labels []string) []path {
	x := node.x
	label := func(n uint32) string { return labels[len(labels)-1-int(n)] }
	there := func(n uint32) bool { return int(n) < len(labels) }
	switch x.Op {
	case 0x02, 0x03, 0x04:
		return w.block(p, node, labels)
	case 0x00:
		return []path{{free: true}}
	case 0x0c:
		if there(x.A) {
			return nowhere(p.takes(label(x.A)))
		}
	case 0x0d:
		if there(x.A) {
			return passes(p, label(x.A)+i32, label(x.A))
		}
	case 0x0e:
		return w.table(p, x, labels)
	case 0x0f:
		return nowhere(p.takes(labels[0]))
	case 0x1a:
		return each(p, guesses, "", "")
	case 0x1b:
		return chosen(p)
	case 0x1c:
		t := string([]byte{byte(x.A)})
		return passes(p, t+t+i32, t)
	case 0xd1:
		return each(p, fun+ext+some, "", i32)
	}
	for _, s := range w.known {
		if s.x.Op == x.Op && s.x.A == x.A {
			return passes(p, s.takes, s.gives)
		}
	}
	return nil
}

func passes(p path, takes, gives string) (list []path) {
	for _, q := range p.takes(takes) {
		list = append(list, q.puts(gives))
	}
	return list
}

// nowhere answers what may stand there behind a branch that was taken: whatever.
func nowhere(ways []path) (list []path) {
	for range ways {
		list = append(list, path{free: true})
	}
	return list
}

// each takes a value of one of these types off, and then rest's.
func each(p path, types, rest, gives string) (list []path) {
	for _, t := range strings.Split(types, "") {
		list = append(list, passes(p, t+rest, gives)...)
	}
	return list
}

func chosen(p path) (list []path) {
	for _, t := range []string{i32, i64, some} {
		list = append(list, passes(p, t+t+i32, t)...)
	}
	return list
}

// table asks for one row of types that fits all labels: the last one's, and each of the others'.
func (w wise) table(p path, x api.Instr, labels []string) (list []path) {
	var asked []string
	for _, n := range append([]uint32{x.A}, x.L...) {
		if int(n) >= len(labels) {
			return nil
		}
		asked = append(asked, labels[len(labels)-1-int(n)])
	}
	for _, q := range p.takes(i32) {
		for _, row := range rowsOf(len(asked[0])) {
			if fitsAll(row, asked) {
				list = append(list, nowhere(q.takes(row))...)
			}
		}
	}
	return list
}

func rowsOf(n int) []string {
	if n == 0 {
		return []string{""}
	}
	var list []string
	for _, row := range rowsOf(n - 1) {
		for _, t := range strings.Split(guesses, "") {
			list = append(list, row+t)
		}
	}
	return list
}

func fitsAll(row string, asked []string) bool {
	for _, label := range asked {
		if len(label) != len(row) {
			return false
		}
		for i := range len(row) {
			if row[i] != label[i] && row[i:i+1] != some {
				return false
			}
		}
	}
	return true
}

func (w wise) block(p path, node tree, labels []string) []path {
	takes, gives, ok := w.typeOf(node.x.T)
	if !ok {
		return nil
	}
	label, asks := gives, takes
	switch node.x.Op {
	case 0x03:
		label = takes
	case 0x04:
		asks += i32
	}
	inside := append(append([]string(nil), labels...), label)
	if !w.ends(node.then, takes, gives, inside) {
		return nil
	}
	if node.x.Op == 0x04 && !w.ends(node.alt, takes, gives, inside) {
		return nil
	}
	return passes(p, asks, gives)
}

func (w wise) typeOf(t int) (takes, gives string, ok bool) {
	switch {
	case t == -64:
		return "", "", true
	case t >= -17 && t < 0 && strings.IndexByte(i32+i64+fun+ext, byte(t)&0x7f) >= 0:
		return "", string([]byte{byte(t) & 0x7f}), true
	case t >= 0 && t < len(w.types):
		return string(w.types[t].Params), string(w.types[t].Results), true
	}
	return "", "", false
}
