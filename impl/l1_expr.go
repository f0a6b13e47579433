package impl

import "strconv"

// What an operand is decides on what may stand behind it.
const (
	sortPlain  = iota // no suffix can follow
	sortParens        // a suffix can follow
	sortTarget        // and a value can be set
	sortCall          // or it can be a statement
)

// operand is a part with the head of all that belongs to it, its parentheses too.
type operand struct {
	part part
	head header
	sort int
}

// binding is how strongly an operation binds its operands, and the token that it is written with.
type binding struct {
	kind      int
	power     int
	rightward bool // of two beside one operand the right one binds it
}

// bindings stand at the numbers of their operations.
var bindings = [...]binding{
	opAdd: {tAdd, 9, false}, opSub: {tSub, 9, false}, opMul: {tMul, 10, false}, opDiv: {tDiv, 10, false},
	opIDiv: {tIDiv, 10, false}, opMod: {tMod, 10, false}, opAnd: {tBitAnd, 7, false}, opOr: {tBitOr, 5, false},
	opXor: {tBitXor, 6, false}, opShl: {tShl, 8, false}, opShr: {tShr, 8, false}, opJoin: {tJoin, 4, true},
	opEq: {tEq, 3, false}, opNe: {tNe, 3, false}, opLt: {tLt, 3, false}, opLe: {tLe, 3, false},
	opGt: {tGt, 3, false}, opGe: {tGe, 3, false},
	opNeg: {tSub, 11, false}, opFlip: {tBitXor, 11, false}, opNot: {tNot, 11, false}, opLen: {tLen, 11, false},
	opBoth: {tAnd, 2, false}, opEither: {tOr, 1, false},
}

// infixOp is the operation that a token stands for between two operands.
func infixOp(kind int) int {
	switch kind {
	case tAnd:
		return opBoth
	case tOr:
		return opEither
	}
	return kind - tAdd + opAdd
}

func prefixOp(kind int) int {
	switch kind {
	case tSub:
		return opNeg
	case tBitXor:
		return opFlip
	case tNot:
		return opNot
	}
	return opLen
}

// pending waits for what stands behind it: a prefix, an infix with its left operand, or, without an op, a parenthesis.
type pending struct {
	head header
	op   int
	left part
}

// binds tells whether an operand between this one and an infix that binds as next does belongs to this one.
func (w pending) binds(next binding) bool {
	if w.op == 0 {
		return false
	}
	own := bindings[w.op].power
	return own > next.power || own == next.power && !next.rightward
}

func (w pending) with(of operand) operand {
	if w.left == nil {
		return operand{&prefixPart{w.head, w.op, of.part}, w.head, sortPlain}
	}
	return operand{&infixPart{w.head, w.op, w.left, of.part}, w.head, sortPlain}
}

// climb reads one expression. What waits stands in a list and not in open calls: parentheses make no parts, so a tree
// may be sound however many of them there are.
type climb struct {
	p       *parser
	waiting []pending
	opens   int
	tail    bool
}

// expr reads an expression; tail says that the statement can end behind it.
func (p *parser) expr(tail bool) part {
	c := climb{p: p, tail: tail}
	for {
		of, ended := c.behind(c.unit())
		if ended {
			return of.part
		}
	}
}

// unit reads prefixes and open parentheses, and what stands behind them.
func (c *climb) unit() operand {
	for {
		c.p.want(unitKinds)
		head, kind := c.p.here(), c.p.tok.kind
		switch {
		case prefixKinds.has(kind):
			c.waiting = append(c.waiting, pending{head: head, op: prefixOp(kind)})
		case kind == tOpen:
			c.waiting = append(c.waiting, pending{head: head})
			c.opens++
		default:
			return c.p.operand(head)
		}
		c.p.advance()
	}
}

// behind reads what belongs to an operand, up to the end of the expression or the infix ahead of its next unit.
func (c *climb) behind(of operand) (whole operand, ended bool) {
	p := c.p
	for !p.over(c.tail && c.opens == 0) {
		more := false
		if of.sort != sortPlain {
			of, more = p.suffix(of)
		}
		if !more && c.opens > 0 && p.take(tClose) {
			of, more = c.close(of), true
		}
		if more {
			continue
		}
		p.want(infixKinds)
		if infixKinds.has(p.tok.kind) {
			c.push(of, infixOp(p.tok.kind))
			p.advance()
			return of, false
		}
		if c.opens > 0 {
			p.fail()
		}
		break
	}
	return c.settle(of, binding{}), true
}

func (c *climb) push(of operand, op int) {
	of = c.settle(of, bindings[op])
	c.waiting = append(c.waiting, pending{of.head, op, of.part})
}

// settle gives an operand to all that waits for it and binds it more strongly than what comes.
func (c *climb) settle(of operand, next binding) operand {
	for len(c.waiting) > 0 {
		last := c.waiting[len(c.waiting)-1]
		if !last.binds(next) {
			break
		}
		of = last.with(of)
		c.waiting = c.waiting[:len(c.waiting)-1]
	}
	return of
}

func (c *climb) close(of operand) operand {
	of = c.settle(of, binding{})
	last := len(c.waiting) - 1
	head := c.waiting[last].head
	c.waiting = c.waiting[:last]
	c.opens--
	return parenthesized(head, of.part)
}

func parenthesized(head header, inner part) operand {
	switch inner.(type) {
	case *callPart, *restPart:
		inner = &onePart{head, inner}
	}
	return operand{inner, head, sortParens}
}

// operand reads a unit without prefixes and parentheses.
func (p *parser) operand(head header) operand {
	t := p.tok
	switch t.kind {
	case tName:
		p.advance()
		return operand{&namePart{leaf{head}, t.text}, head, sortTarget}
	case tRest:
		p.advance()
		return operand{&restPart{leaf{head}}, head, sortPlain}
	case tFn:
		p.advance()
		return operand{p.body(head), head, sortPlain}
	case tBegin:
		return operand{p.table(head), head, sortPlain}
	}
	made := &literalPart{leaf: leaf{head}}
	switch t.kind {
	case tNil:
	case tTrue, tFalse:
		made.value = boolValue(t.kind == tTrue)
	case tInt:
		made.value = intValue(t.num)
	case tFlt:
		num, _ := strconv.ParseFloat(t.text, 64) // beyond all floats it answers an infinity, as it should
		made.value = floatValue(num)
		made.text = t.text
	case tStr:
		made.value = strValue(t.text)
	default:
		p.fail()
	}
	p.advance()
	return operand{made, head, sortPlain}
}

// suffix reads one suffix, if there is one.
func (p *parser) suffix(of operand) (operand, bool) {
	switch {
	case p.take(tDot):
		return operand{&fieldPart{of.head, of.part, p.name()}, of.head, sortTarget}, true
	case p.take(tSquare):
		p.enter()
		key := p.expr(false)
		p.leave()
		p.expect(tUnquare)
		return operand{&indexPart{of.head, of.part, key}, of.head, sortTarget}, true
	case p.take(tOpen):
		return operand{&callPart{of.head, of.part, p.args()}, of.head, sortCall}, true
	}
	return of, false
}

func (p *parser) args() []part {
	if p.take(tClose) {
		return nil
	}
	p.enter()
	list := p.exprs(false)
	p.leave()
	p.expect(tClose)
	return list
}

func (p *parser) table(head header) part {
	p.enter()
	p.expect(tBegin)
	var entries []part
	for !p.at(tFinish) {
		entries = append(entries, p.entry())
		if !p.take(tComma) {
			break
		}
	}
	p.expect(tFinish)
	p.leave()
	return &tablePart{head, entries}
}

func (p *parser) entry() part {
	head := p.here()
	switch {
	case p.take(tSquare):
		key := p.expr(false)
		p.expect(tUnquare)
		p.expect(tIs)
		return &pairPart{head, key, p.expr(false)}
	case p.take(tDot):
		name := p.name()
		p.expect(tIs)
		return &namedPart{head, name, p.expr(false)}
	}
	return &itemPart{head, p.expr(false)}
}
