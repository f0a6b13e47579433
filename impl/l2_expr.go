package impl

// expr is a compiled expression: it gives one value.
type expr func(f *frame) (value, error)

// list is what gives any number of values.
type list func(f *frame) ([]value, error)

// compiler makes closures of the nodes of a fn.
type compiler struct {
	*machine
	nodes []node
}

func (c compiler) expr(at int) expr {
	n := c.nodes[at]
	switch n.kind {
	case nVar:
		return func(f *frame) (value, error) { return f.vars[n.refs[0]].value, nil }
	case nUp:
		return func(f *frame) (value, error) { return f.fn.ups[n.refs[0]].value, nil }
	case nAnd, nOr:
		return c.choose(n)
	case nUnary:
		return c.unary(n)
	case nBinary:
		return c.binary(n)
	case nIndex:
		return c.index(n)
	case nTable:
		return c.table(n)
	case nFn:
		return c.function(n)
	case nCall, nRest:
		return first(c.list(at))
	case nOne:
		return c.expr(n.kids[0])
	}
	v, _ := workOut(c.nodes, at)
	return func(*frame) (value, error) { return v, nil }
}

func first(all list) expr {
	return func(f *frame) (value, error) {
		values, way := all(f)
		return nth(values, 0), way
	}
}

// list compiles what gives all its values where it stands last.
func (c compiler) list(at int) list {
	n := c.nodes[at]
	if n.kind == nRest {
		return func(f *frame) ([]value, error) { return f.rest, nil }
	}
	called := c.called(n)
	return func(f *frame) ([]value, error) {
		callee, args, way := called(f)
		if way != nil {
			return nil, way
		}
		return f.task.call(callee, args)
	}
}

// called compiles what a call is made of. It is held no longer once it is handed over to the call.
func (c compiler) called(n node) func(f *frame) (value, []value, error) {
	callee, args := c.expr(n.kids[0]), c.values(n.kids[1:])
	return func(f *frame) (value, []value, error) {
		of, way := callee(f)
		if way != nil {
			return value{}, nil, way
		}
		defer f.hold(of)()
		given, way := args(f)
		return of, given, way
	}
}

// hold keeps values reached until the function that it answers is called.
func (f *frame) hold(values ...value) (drop func()) {
	height := f.held.height()
	f.held.push(values...)
	return func() { f.held.cut(height) }
}

// values compiles a list of expressions: the last one gives all its values if it can.
func (c compiler) values(kids []int) list {
	var singles []expr
	var last list
	for i, kid := range kids {
		kind := c.nodes[kid].kind
		if i == len(kids)-1 && (kind == nCall || kind == nRest) {
			last = c.list(kid)
		} else {
			singles = append(singles, c.expr(kid))
		}
	}
	return func(f *frame) ([]value, error) {
		made, way := eachValue(f, singles)
		if way != nil || last == nil {
			return made, way
		}
		defer f.hold(made...)()
		more, way := last(f)
		if way == nil && len(made)+len(more) > maxList {
			way = f.task.fail(errLong)
		}
		return append(made, more...), way
	}
}

func eachValue(f *frame, singles []expr) ([]value, error) {
	defer f.hold()()
	var made []value
	for _, single := range singles {
		v, way := single(f)
		if way != nil {
			return nil, way
		}
		f.held.push(v)
		made = append(made, v)
	}
	return made, nil
}

// two works out two expressions, one after the other.
func two(f *frame, left, right expr) (a, b value, way error) {
	if a, way = left(f); way != nil {
		return a, b, way
	}
	defer f.hold(a)()
	b, way = right(f)
	return a, b, way
}

func (c compiler) choose(n node) expr {
	left, right := c.expr(n.kids[0]), c.expr(n.kids[1])
	return func(f *frame) (value, error) {
		v, way := left(f)
		if way != nil || truth(v) == (n.kind == nOr) {
			return v, way
		}
		return right(f)
	}
}

func (c compiler) unary(n node) expr {
	of := c.expr(n.kids[0])
	return func(f *frame) (value, error) {
		v, way := of(f)
		if way != nil {
			return value{}, way
		}
		return f.task.unary(n.op, v)
	}
}

func (c compiler) binary(n node) expr {
	left, right := c.expr(n.kids[0]), c.expr(n.kids[1])
	return func(f *frame) (value, error) {
		a, b, way := two(f, left, right)
		if way != nil {
			return value{}, way
		}
		return f.task.binary(n.op, a, b)
	}
}

func (c compiler) index(n node) expr {
	left, right := c.expr(n.kids[0]), c.expr(n.kids[1])
	return func(f *frame) (value, error) {
		of, k, way := two(f, left, right)
		if way != nil {
			return value{}, way
		}
		return f.task.get(of, k)
	}
}

func (c compiler) function(n node) expr {
	number := n.refs[0]
	return func(f *frame) (value, error) {
		of := c.codes[number]
		if way := f.task.spend(1 + len(of.ups)); way != nil {
			return value{}, way
		}
		made := &closure{code: of}
		for _, up := range of.ups {
			if up.local {
				made.ups = append(made.ups, f.vars[up.index])
			} else {
				made.ups = append(made.ups, f.fn.ups[up.index])
			}
		}
		return value{kind: kFn, ref: made}, nil
	}
}

// entry puts one entry, or several, into a table that is made.
type entry func(f *frame, to *table) error

func (c compiler) table(n node) expr {
	var entries []entry
	for i := 0; i < len(n.kids); i += 2 {
		if n.op == 1 && i == len(n.kids)-2 {
			entries = append(entries, c.lastEntries(n.kids[i], n.kids[i+1]))
		} else {
			entries = append(entries, c.entry(n.kids[i], n.kids[i+1]))
		}
	}
	return func(f *frame) (value, error) {
		if way := f.task.spend(1); way != nil {
			return value{}, way
		}
		made := f.task.newTable()
		defer f.hold(tableValue(made))()
		for _, put := range entries {
			if way := put(f, made); way != nil {
				return value{}, way
			}
		}
		return tableValue(made), nil
	}
}

func (c compiler) entry(keyAt, valueAt int) entry {
	left, right := c.expr(keyAt), c.expr(valueAt)
	return func(f *frame, to *table) error {
		k, v, way := two(f, left, right)
		if way != nil {
			return way
		}
		return f.task.put(to, k, v)
	}
}

// lastEntries puts all values of a list in, at a number and those that follow.
func (c compiler) lastEntries(keyAt, valuesAt int) entry {
	number, all := c.nodes[keyAt].num, c.list(valuesAt)
	return func(f *frame, to *table) error {
		values, way := all(f)
		for i, v := range values {
			if way == nil {
				way = f.task.put(to, intValue(number+int64(i)), v)
			}
		}
		return way
	}
}
