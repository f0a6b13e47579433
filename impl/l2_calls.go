package impl

// call calls a value. While a table has a handler for that, this one is called in its place.
func (t *task) call(callee value, args []value) ([]value, error) {
	for handlers := 0; ; handlers++ {
		if over := t.tick(); over != nil {
			return nil, over
		}
		switch of := callee.ref.(type) {
		case *closure:
			return t.open(of, args)
		case *table:
			handler := kindly{callee}.handler("call")
			switch {
			case handler.kind == kNil:
				return nil, t.fail(errCall)
			case handlers == maxChain:
				return nil, t.fail(errLoop)
			}
			args = append([]value{callee}, args...)
			callee = handler
		default:
			if callee.kind == kBuiltin {
				return t.builtin(callee.num)(args)
			}
			return nil, t.fail(errCall)
		}
	}
}

// callFirst is the first value that a call gives.
func (t *task) callFirst(callee value, args ...value) (value, error) {
	values, way := t.call(callee, args)
	return nth(values, 0), way
}

// open opens a call of a fn, does its body, and closes it.
func (t *task) open(fn *closure, args []value) ([]value, error) {
	if t.depth() >= t.in.Depth {
		return nil, t.fail(errDepth)
	}
	f := newFrame(t, fn.code, fn, args)
	t.frames.push(f)
	defer t.frames.pop()
	if over := t.record(RecCall, f.code.line, f.code.name); over != nil {
		return nil, over
	}
	way := f.code.body(f)
	if way == wayOver {
		return nil, way
	}
	return t.back(way)
}

// back tells that the innermost call is left, and hands on its values, or the way by which more than the call is left.
func (t *task) back(way error) ([]value, error) {
	values, left := outcome(way)
	text := ""
	switch {
	case left != nil:
		text = "error"
	case way == wayGone:
		text = "gone"
	default:
		way = nil
	}
	if over := t.record(RecBack, 0, text); over != nil {
		return nil, over
	}
	return values, way
}

// depth is the number of calls that are open in the task and in those that wait for it.
func (t *task) depth() int {
	open := 0
	for ; t != nil; t = t.waiter {
		open += t.frames.height()
	}
	return open
}
