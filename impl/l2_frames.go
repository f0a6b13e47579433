package impl

// frame is an open call. What its expressions and statements have worked out and still need stands in held, what its
// defers have kept in kept, and the ways by which its blocks are being left, while their defers are run, in ways.
type frame struct {
	task  *task
	code  *code
	fn    *closure // nil for the text
	vars  []*box   // by number: of each variable the one that was made last
	scope stack[int]
	held  stack[value]
	kept  stack[kept]
	ways  stack[error]
	rest  []value
	line  int // that of the statement at hand
}

// kept is what a defer has kept, with its line and the height of the scope where it stands.
type kept struct {
	callee value
	args   []value
	line   int
	scope  int
}

func newFrame(t *task, c *code, fn *closure, args []value) *frame {
	f := &frame{task: t, code: c, fn: fn, vars: make([]*box, len(c.vars))}
	for number := range c.params {
		f.declare(number, nth(args, number))
	}
	if c.rest && len(args) > c.params {
		f.rest = args[c.params:]
	}
	return f
}

// declare makes a variable, which is in scope from now on.
func (f *frame) declare(number int, v value) {
	f.vars[number] = &box{v}
	f.scope.push(number)
}

// nth is the value at a place of a list; nil where there is none.
func nth(values []value, at int) value {
	if at < len(values) {
		return values[at]
	}
	return value{}
}

// leave runs what a block has put off, the last one first, and answers by which way the block is left in the end.
func (f *frame) leave(way error, height int) error {
	for f.kept.height() > height && way != wayOver {
		way = f.runKept(way, f.kept.pop())
	}
	return way
}

// runKept runs one defer of a block that is being left, and answers by which way it is left from then on. The defers
// behind this one are done: so the scope may stay as it was where this one stands.
func (f *frame) runKept(way error, k kept) error {
	line := f.line
	f.line = k.line
	f.scope.cut(k.scope)
	f.ways.push(way)
	_, another := f.task.call(k.callee, k.args)
	way = f.ways.pop()
	f.line = line
	_, left := outcome(another)
	switch {
	case another == nil:
		return way
	case left != nil && way == wayGone:
		f.task.dropped = left
		return way
	}
	return another
}
