package impl

import "math"

// stat is a compiled statement: it answers by which way it was left.
type stat func(f *frame) error

func (c compiler) stat(at int) stat {
	n := c.nodes[at]
	if n.kind == nBlock {
		return c.block(n)
	}
	do := c.deed(n)
	return func(f *frame) error {
		if over := f.task.tick(); over != nil {
			return over
		}
		line := f.line
		f.line = n.line
		defer func() { f.line = line }()
		if over := f.task.record(RecLine, n.line, ""); over != nil {
			return over
		}
		return do(f)
	}
}

// deed is what a statement does once it has begun.
func (c compiler) deed(n node) stat {
	switch n.kind {
	case nLet:
		return c.let(n)
	case nSet:
		return c.set(n)
	case nIf:
		return c.choice(n)
	case nWhile:
		return c.while(n)
	case nFor:
		return c.count(n)
	case nEach:
		return c.each(n)
	case nBreak:
		return func(*frame) error { return wayBreak }
	case nNext:
		return func(*frame) error { return wayNext }
	case nReturn:
		return c.back(n)
	case nTry:
		return c.try(n)
	case nThrow:
		return c.throw(n)
	case nDefer:
		return c.putOff(n)
	}
	call := c.list(n.kids[0])
	return func(f *frame) error {
		_, way := call(f)
		return way
	}
}

func (c compiler) block(n node) stat {
	var stats []stat
	for _, kid := range n.kids {
		stats = append(stats, c.stat(kid))
	}
	return func(f *frame) (way error) {
		scope, kept := f.scope.height(), f.kept.height()
		defer func() {
			way = f.leave(way, kept)
			f.scope.cut(scope)
		}()
		for _, do := range stats {
			if way = do(f); way != nil {
				return way
			}
		}
		return nil
	}
}

// assigned compiles the expressions for so many variables or targets. A single one for a single one makes no list.
func (c compiler) assigned(targets int, kids []int) list {
	if targets > 1 || len(kids) != 1 {
		return c.values(kids)
	}
	single := c.expr(kids[0])
	return func(f *frame) ([]value, error) {
		v, way := single(f)
		return []value{v}, way
	}
}

func (c compiler) let(n node) stat {
	assigned := c.assigned(len(n.refs), n.kids)
	return func(f *frame) error {
		values, way := assigned(f)
		if way != nil {
			return way
		}
		for i, ref := range n.refs {
			f.declare(ref, nth(values, i))
		}
		return nil
	}
}

// target is what a set writes to, a variable or a place in a table, and the value that it is to get.
type target struct {
	box   *box
	of, k value
	value value
}

func (c compiler) target(at int) func(f *frame) (target, error) {
	n := c.nodes[at]
	switch n.kind {
	case nVar:
		return func(f *frame) (target, error) { return target{box: f.vars[n.refs[0]]}, nil }
	case nUp:
		return func(f *frame) (target, error) { return target{box: f.fn.ups[n.refs[0]]}, nil }
	}
	left, right := c.expr(n.kids[0]), c.expr(n.kids[1])
	return func(f *frame) (target, error) {
		of, k, way := two(f, left, right)
		return target{of: of, k: k}, way
	}
}

func (c compiler) set(n node) stat {
	all := c.targets(n)
	return func(f *frame) error {
		targets, way := all(f)
		for i, t := range targets {
			if way == nil {
				way = f.assign(t, targets[i+1:])
			}
		}
		return way
	}
}

// targets compiles what works out the targets of a set and their values.
func (c compiler) targets(n node) func(f *frame) ([]target, error) {
	var places []func(f *frame) (target, error)
	for _, kid := range n.kids[:n.num] {
		places = append(places, c.target(kid))
	}
	assigned := c.assigned(len(places), n.kids[n.num:])
	return func(f *frame) ([]target, error) {
		defer f.hold()()
		var targets []target
		for _, place := range places {
			t, way := place(f)
			if way != nil {
				return nil, way
			}
			f.held.push(t.of, t.k)
			targets = append(targets, t)
		}
		values, way := assigned(f)
		for i := range targets {
			targets[i].value = nth(values, i)
		}
		return targets, way
	}
}

// assign gives a target its value. Of the set only what its later targets need is held meanwhile.
func (f *frame) assign(t target, later []target) error {
	defer f.hold()()
	for _, other := range later {
		f.held.push(other.of, other.k, other.value)
	}
	if t.box != nil {
		t.box.value = t.value
		return nil
	}
	return f.task.set(t.of, t.k, t.value)
}

func (c compiler) choice(n node) stat {
	cond, then := c.expr(n.kids[0]), c.stat(n.kids[1])
	other := func(*frame) error { return nil }
	if len(n.kids) == 3 {
		other = c.stat(n.kids[2])
	}
	return func(f *frame) error {
		v, way := cond(f)
		switch {
		case way != nil:
			return way
		case truth(v):
			return then(f)
		}
		return other(f)
	}
}

// turn does the block of a loop once, with the loop's variables made anew.
func (f *frame) turn(block stat, refs []int, values ...value) error {
	defer f.scope.cut(f.scope.height())
	for i, ref := range refs {
		f.declare(ref, nth(values, i))
	}
	if way := block(f); way != wayNext {
		return way
	}
	return nil
}

// loopLeft is by which way a loop is left whose block was left by one.
func loopLeft(way error) error {
	if way == wayBreak {
		return nil
	}
	return way
}

func (c compiler) while(n node) stat {
	cond, block := c.expr(n.kids[0]), c.stat(n.kids[1])
	return func(f *frame) error {
		for {
			if over := f.task.tick(); over != nil {
				return over
			}
			v, way := cond(f)
			if way != nil || !truth(v) {
				return way
			}
			if way := f.turn(block, nil); way != nil {
				return loopLeft(way)
			}
		}
	}
}

func (c compiler) count(n node) stat {
	bounds := []expr{c.expr(n.kids[0]), c.expr(n.kids[1]), c.expr(n.kids[2])}
	block := c.stat(n.kids[3])
	return func(f *frame) error {
		got, way := eachValue(f, bounds)
		if way != nil {
			return way
		}
		count, code := counting(got[0], got[1], got[2])
		if code != 0 {
			return f.task.fail(code)
		}
		for number, ok := count(); ok; number, ok = count() {
			if over := f.task.tick(); over != nil {
				return over
			}
			if way := f.turn(block, n.refs, number); way != nil {
				return loopLeft(way)
			}
		}
		return nil
	}
}

// counting is what gives the numbers of a loop that counts, one at each call.
func counting(from, to, step value) (count func() (value, bool), code int) {
	switch {
	case !from.isNumber() || !to.isNumber() || !step.isNumber():
		return nil, errType
	case step.float() == 0 || math.IsNaN(step.float()):
		return nil, errStep
	case from.kind == kInt && to.kind == kInt && step.kind == kInt:
		return countInts(from.num, to.num, step.num), 0
	}
	return countFloats(from.float(), to.float(), step.float()), 0
}

func countInts(number, to, step int64) func() (value, bool) {
	wrapped := false
	return func() (value, bool) {
		if wrapped || step > 0 && number > to || step < 0 && number < to {
			return value{}, false
		}
		given := intValue(number)
		number += step
		wrapped = (number < given.num) == (step > 0)
		return given, true
	}
}

func countFloats(number, to, step float64) func() (value, bool) {
	return func() (value, bool) {
		if !(step > 0 && number <= to || step < 0 && number >= to) {
			return value{}, false
		}
		given := floatValue(number)
		number += step
		return given, true
	}
}

func (c compiler) each(n node) stat {
	over, block := c.expr(n.kids[0]), c.stat(n.kids[1])
	return func(f *frame) error {
		v, way := over(f)
		if way != nil {
			return way
		}
		source, way := f.task.source(v)
		if way != nil {
			return way
		}
		defer f.hold(source)()
		next := f.calls(source)
		if of := tableOf(source); of != nil {
			next = f.pairs(of)
		}
		for {
			values, way := next()
			if way != nil || len(values) == 0 {
				return way
			}
			if way := f.turn(block, n.refs, values...); way != nil {
				return loopLeft(way)
			}
		}
	}
}

// source is what a loop over a value goes through: a table without a handler for that, a fn or a builtin.
func (t *task) source(v value) (value, error) {
	if v.kind == kTable {
		handler := kindly{v}.handler("each")
		if handler.kind == kNil {
			return v, nil
		}
		var way error
		if v, way = t.callFirst(handler, v); way != nil {
			return value{}, way
		}
	}
	if v.kind != kFn && v.kind != kBuiltin {
		return value{}, t.fail(errType)
	}
	return v, nil
}

// pairs is what begins a turn over a table: it gives the next pair, nothing when there is none.
func (f *frame) pairs(of *table) func() ([]value, error) {
	last := 0
	return func() ([]value, error) {
		p := of.after(last)
		if p == nil {
			return nil, nil
		}
		last = p.turn
		return []value{p.key, p.val}, f.task.tick()
	}
}

// calls is what begins a turn over a fn or builtin: it gives what a call of it gives, nothing when that begins with nil.
func (f *frame) calls(of value) func() ([]value, error) {
	return func() ([]value, error) {
		if over := f.task.tick(); over != nil {
			return nil, over
		}
		values, way := f.task.call(of, nil)
		if nth(values, 0).kind == kNil {
			values = nil
		}
		return values, way
	}
}

func (c compiler) back(n node) stat {
	all := c.values(n.kids)
	return func(f *frame) error {
		values, way := all(f)
		if way != nil {
			return way
		}
		return &returned{values}
	}
}

func (c compiler) try(n node) stat {
	block, handler := c.stat(n.kids[0]), c.stat(n.kids[1])
	return func(f *frame) error {
		way := block(f)
		_, left := outcome(way)
		if left == nil {
			return way
		}
		if over := f.task.record(RecCatch, n.line, asTold(left.value)); over != nil {
			return over
		}
		defer f.scope.cut(f.scope.height())
		f.declare(n.refs[0], left.value)
		f.declare(n.refs[1], strValue(left.trace))
		return handler(f)
	}
}

func (c compiler) throw(n node) stat {
	of := c.expr(n.kids[0])
	return func(f *frame) error {
		v, way := of(f)
		if way != nil {
			return way
		}
		return f.task.throw(v)
	}
}

func (c compiler) putOff(n node) stat {
	called := c.called(c.nodes[n.kids[0]])
	return func(f *frame) error {
		callee, args, way := called(f)
		if way != nil {
			return way
		}
		f.kept.push(kept{callee, args, n.line, f.scope.height()})
		return nil
	}
}
