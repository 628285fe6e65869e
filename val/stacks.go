package val

import "cloakroom/api"

// value is the type of a value that stands there, or whatever.
type value int

// whatever is what fits every type; no type of values is negative.
const whatever value = -1

// stacks has the types of the values that stand there, and the blocks that are open, each behind the one around it: the first is the body itself.
type stacks struct {
	values []value
	blocks []block
}

// block is a block that is open.
type block struct {
	op      int
	t       api.FuncType
	beneath int  // how many values stood there before its own
	over    bool // does nothing come here? Then what its own values lack is whatever is needed
}

func (s *stacks) inner() *block {
	return &s.blocks[len(s.blocks)-1]
}

// own answers the values that the innermost block may take.
func (s *stacks) own() []value {
	return s.values[s.inner().beneath:]
}

// fits tells whether values of these types stand on top, the last one topmost.
func (s *stacks) fits(types []byte) bool {
	own := s.own()
	if len(own) < len(types) && !s.inner().over {
		return false
	}
	for down := 1; down <= min(len(own), len(types)); down++ {
		v := own[len(own)-down]
		if v != whatever && v != value(types[len(types)-down]) {
			return false
		}
	}
	return true
}

// take takes values of these types off, if they stand on top.
func (s *stacks) take(types ...byte) bool {
	if !s.fits(types) {
		return false
	}
	s.cut(len(types))
	return true
}

// pop takes the topmost value off, of whatever type it is.
func (s *stacks) pop() (value, bool) {
	own := s.own()
	if len(own) == 0 {
		return whatever, s.inner().over
	}
	top := own[len(own)-1]
	s.cut(1)
	return top, true
}

// cut takes that many of the innermost block's own values off, or as many as stand there.
func (s *stacks) cut(n int) {
	s.values = s.values[:len(s.values)-min(n, len(s.own()))]
}

func (s *stacks) push(types ...byte) {
	for _, t := range types {
		s.values = append(s.values, value(t))
	}
}

// pass takes what t takes, if it stands there, and puts what t gives.
func (s *stacks) pass(t api.FuncType) bool {
	if !s.take(t.Params...) {
		return false
	}
	s.push(t.Results...)
	return true
}

// open opens a block whose params stand there as its own.
func (s *stacks) open(op int, t api.FuncType) {
	s.blocks = append(s.blocks, block{op: op, t: t, beneath: len(s.values)})
	s.push(t.Params...)
}

// leave closes the innermost block, if just what it gives stands there.
func (s *stacks) leave() (t api.FuncType, ok bool) {
	t = s.inner().t
	if !s.take(t.Results...) || len(s.own()) > 0 {
		return api.FuncType{}, false
	}
	s.blocks = s.blocks[:len(s.blocks)-1]
	return t, true
}

// stop tells that nothing comes here up to the end of the innermost block, or to its else.
func (s *stacks) stop() {
	s.cut(len(s.own()))
	s.inner().over = true
}

// label answers what a branch takes along to the block that stands that many further out.
func (s *stacks) label(depth uint32) ([]byte, bool) {
	if uint64(depth) >= uint64(len(s.blocks)) {
		return nil, false
	}
	to := s.blocks[len(s.blocks)-1-int(depth)]
	if to.op == loopOp {
		return to.t.Params, true
	}
	return to.t.Results, true
}

// outermost answers what the body itself gives.
func (s *stacks) outermost() []byte {
	return s.blocks[0].t.Results
}
