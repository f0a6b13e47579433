package impl

import (
	"strconv"
	"strings"
)

// printer writes a tree down tidily. Tabs is how many blocks stand around.
type printer struct {
	out  strings.Builder
	tabs int
}

func printed(root *blockPart) string {
	w := &printer{}
	for _, s := range root.stats {
		w.stat(s)
		w.put("\n")
	}
	return w.out.String()
}

func (w *printer) put(pieces ...string) {
	for _, piece := range pieces {
		w.out.WriteString(piece)
	}
}

func (w *printer) line() {
	w.put("\n", strings.Repeat("\t", w.tabs))
}

func (w *printer) block(b *blockPart) {
	if len(b.stats) == 0 {
		w.put("{}")
		return
	}
	w.put("{")
	w.tabs++
	for _, s := range b.stats {
		w.line()
		w.stat(s)
	}
	w.tabs--
	w.line()
	w.put("}")
}

func (w *printer) stat(p part) {
	switch s := p.(type) {
	case *blockPart:
		w.block(s)
	case *letPart:
		w.put("let ", strings.Join(s.names, ", "))
		w.listBehind(" = ", s.values)
	case *constPart:
		w.put("const ", s.name, " = ")
		w.expr(s.value)
	case *namedFnPart:
		w.put("fn ", s.name)
		w.body(s.fn)
	case *setPart:
		w.list(s.targets)
		w.listBehind(" = ", s.values)
	case *doPart:
		w.expr(s.call)
	case *deferPart:
		w.put("defer ")
		w.expr(s.call)
	case *ifPart:
		w.choice(s)
	case *returnPart:
		w.put("return")
		w.listBehind(" ", s.values)
	case *throwPart:
		w.put("throw ")
		w.expr(s.value)
	case *breakPart:
		w.put("break")
	case *nextPart:
		w.put("next")
	default:
		w.stretch(p)
	}
}

// stretch writes a statement that does a block again, or catches what leaves it.
func (w *printer) stretch(p part) {
	switch s := p.(type) {
	case *whilePart:
		w.put("while ")
		w.expr(s.cond)
		w.put(" ")
		w.block(s.body)
	case *forPart:
		w.put("for ", s.name, " = ")
		w.list(s.bounds)
		w.put(" ")
		w.block(s.body)
	case *eachPart:
		w.put("for ", strings.Join(s.names, ", "), " in ")
		w.expr(s.over)
		w.put(" ")
		w.block(s.body)
	case *tryPart:
		w.put("try ")
		w.block(s.body)
		w.put(" catch ", strings.Join(s.names, ", "), " ")
		w.block(s.handler)
	}
}

func (w *printer) choice(s *ifPart) {
	w.put("if ")
	w.expr(s.cond)
	w.put(" ")
	w.block(s.then)
	switch other := s.other.(type) {
	case *ifPart:
		w.put(" el")
		w.choice(other)
	case *blockPart:
		w.put(" else ")
		w.block(other)
	}
}

func (w *printer) list(list []part) {
	for i, p := range list {
		if i > 0 {
			w.put(", ")
		}
		w.expr(p)
	}
}

func (w *printer) listBehind(sign string, list []part) {
	if len(list) > 0 {
		w.put(sign)
		w.list(list)
	}
}

func (w *printer) body(f *fnPart) {
	params := f.params
	if f.rest {
		params = append(params[:len(params):len(params)], "...")
	}
	w.put("(", strings.Join(params, ", "), ") ")
	w.block(f.body)
}

func (w *printer) expr(p part) {
	switch e := p.(type) {
	case *literalPart:
		w.literal(e)
	case *restPart:
		w.put("...")
	case *namePart:
		w.put(e.name)
	case *prefixPart:
		w.prefix(e)
	case *infixPart:
		w.infix(e)
	case *indexPart:
		w.base(e.of)
		w.put("[")
		w.expr(e.key)
		w.put("]")
	case *fieldPart:
		w.base(e.of)
		w.put(".", e.name)
	case *callPart:
		w.base(e.of)
		w.put("(")
		w.list(e.args)
		w.put(")")
	case *tablePart:
		w.put("{")
		w.list(e.entries)
		w.put("}")
	case *fnPart:
		w.put("fn")
		w.body(e)
	case *onePart:
		w.parens(e.of, true)
	default:
		w.entry(p)
	}
}

func (w *printer) entry(p part) {
	switch e := p.(type) {
	case *itemPart:
		w.expr(e.value)
	case *pairPart:
		w.put("[")
		w.expr(e.key)
		w.put("] = ")
		w.expr(e.value)
	case *namedPart:
		w.put(".", e.name, " = ")
		w.expr(e.value)
	}
}

func (w *printer) literal(e *literalPart) {
	switch {
	case e.value.kind == kFlt:
		w.put(e.text)
	case e.value.kind == kStr:
		w.put(quote(e.value.str))
	case e.value.kind == kInt && e.value.num < 0:
		w.put("0x", strconv.FormatUint(uint64(e.value.num), 16))
	default:
		w.put(textOf(e.value))
	}
}

func (w *printer) parens(p part, needed bool) {
	if needed {
		w.put("(")
	}
	w.expr(p)
	if needed {
		w.put(")")
	}
}

// base writes what a suffix follows.
func (w *printer) base(p part) {
	switch p.(type) {
	case *namePart, *indexPart, *fieldPart, *callPart, *onePart:
		w.expr(p)
	default:
		w.parens(p, true)
	}
}

func (w *printer) prefix(e *prefixPart) {
	w.put(spelled[bindings[e.op].kind])
	inner, ok := e.of.(*prefixPart)
	if e.op == opNot || e.op == opNeg && ok && inner.op == opNeg {
		w.put(" ") // without it two signs were a remark, and a word would go on
	}
	_, isInfix := e.of.(*infixPart)
	w.parens(e.of, isInfix)
}

func (w *printer) infix(e *infixPart) {
	own := bindings[e.op]
	left, right := own.power, own.power+1
	if own.rightward {
		left, right = right, left
	}
	w.operand(e.left, left)
	w.put(" ", spelled[own.kind], " ")
	w.operand(e.right, right)
}

// operand writes an operand that has to bind with the least power at least.
func (w *printer) operand(p part, least int) {
	e, ok := p.(*infixPart)
	w.parens(p, ok && bindings[e.op].power < least)
}
