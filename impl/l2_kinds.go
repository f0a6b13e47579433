package impl

// opHandlers are the names of the handlers of operations, at their numbers.
var opHandlers = [...]string{
	opAdd: "add", opSub: "sub", opMul: "mul", opDiv: "div", opIDiv: "idiv", opMod: "mod",
	opAnd: "and", opOr: "or", opXor: "xor", opShl: "shl", opShr: "shr", opJoin: "join",
	opEq: "eq", opNe: "eq", opLt: "lt", opLe: "le", opNeg: "neg", opFlip: "flip", opLen: "len",
}

// kindly is a value that is asked for what its kind says.
type kindly struct{ value }

// handler is the handler of the value for a name; nil when it has none.
func (k kindly) handler(name string) value {
	of := tableOf(k.value)
	if of == nil || of.kind == nil {
		return value{}
	}
	return of.kind.entry(name)
}

// firstHandler asks one after the other for its handler for a name.
func firstHandler(name string, asked ...func(string) value) value {
	for _, handler := range asked {
		if found := handler(name); found.kind != kNil {
			return found
		}
	}
	return value{}
}

// binary works out an operation of two values, by a handler where there is need of one.
func (t *task) binary(op int, a, b value) (value, error) {
	switch op {
	case opEq, opNe:
		return t.equal(op == opEq, a, b)
	case opGt:
		return t.binary(opLt, b, a)
	case opGe:
		return t.binary(opLe, b, a)
	case opJoin:
		if over := t.tick(); over != nil {
			return value{}, over
		}
	}
	got := binary(op, a, b)
	if got.code == 0 {
		return got.value, nil
	}
	handler := firstHandler(opHandlers[op], kindly{a}.handler, kindly{b}.handler)
	if got.code != errType || handler.kind == kNil {
		return value{}, t.fail(got.code)
	}
	made, way := t.callFirst(handler, a, b)
	if op == opLt || op == opLe {
		made = boolValue(truth(made))
	}
	return made, way
}

func (t *task) equal(wanted bool, a, b value) (value, error) {
	if a.kind != kTable || b.kind != kTable || same(a, b) {
		return boolValue(same(a, b) == wanted), nil
	}
	handler := firstHandler(opHandlers[opEq], kindly{a}.handler, kindly{b}.handler)
	if handler.kind == kNil {
		return boolValue(!wanted), nil
	}
	made, way := t.callFirst(handler, a, b)
	return boolValue(truth(made) == wanted), way
}

// unary works out an operation of one value, by a handler where there is need of one.
func (t *task) unary(op int, v value) (value, error) {
	got := unary(op, v)
	if got.code == 0 {
		return got.value, nil
	}
	if handler := (kindly{v}).handler(opHandlers[op]); handler.kind != kNil {
		return t.callFirst(handler, v)
	}
	if of := tableOf(v); of != nil && op == opLen {
		return intValue(of.length()), nil
	}
	return value{}, t.fail(got.code)
}

// get reads a value at a key.
func (t *task) get(v, k value) (value, error) {
	if v.kind != kTable {
		return value{}, t.fail(errIndex)
	}
	for steps := 0; ; steps++ {
		if got := tableOf(v).get(k); got.kind != kNil {
			return got, nil
		}
		handler := kindly{v}.handler("index")
		switch {
		case handler.kind == kNil:
			return value{}, nil
		case handler.kind != kTable:
			return t.callFirst(handler, v, k)
		case steps == maxChain:
			return value{}, t.fail(errLoop)
		}
		v = handler
	}
}

// set writes a value at a key.
func (t *task) set(v, k, val value) error {
	if v.kind != kTable {
		return t.fail(errIndex)
	}
	if code := key(k).code; code != 0 {
		return t.fail(code)
	}
	for steps := 0; ; steps++ {
		handler := kindly{v}.handler("setindex")
		switch {
		case handler.kind == kNil || tableOf(v).find(k) != nil:
			return t.put(tableOf(v), k, val)
		case handler.kind != kTable:
			_, way := t.callFirst(handler, v, k, val)
			return way
		case steps == maxChain:
			return t.fail(errLoop)
		}
		v = handler
	}
}

// put writes into a table itself. A nil takes out what is there.
func (t *task) put(to *table, k, val value) error {
	place := key(k)
	if place.code != 0 {
		return t.fail(place.code)
	}
	found := to.find(k)
	switch {
	case found != nil && val.kind == kNil:
		to.remove(found)
	case found != nil:
		found.val = val
	case val.kind == kNil:
	case len(to.pairs) == maxPairs:
		return t.fail(errLong)
	default:
		if way := t.spend(1); way != nil {
			return way
		}
		to.add(place.value, val)
	}
	return nil
}

// spend makes cells, if the allowance has room for them.
func (t *task) spend(cells int) error {
	if t.lives+t.since+cells > t.in.Cells {
		return t.fail(errCells)
	}
	t.since += cells
	t.report.Made += cells
	return nil
}
