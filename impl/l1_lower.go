package impl

import "math"

// nameFault is what the lowering leaves by at the first part that is wrong for its names.
type nameFault struct {
	code int
	at   int
}

// lowered is the unit of a tree, or the code and the place of the first part whose names are wrong.
type lowered struct {
	code int
	at   int
	unit unit
}

// lowering makes a unit of a sound tree. It goes through the parts in the order of their numbers, so the first fault
// that it meets is the one that counts.
type lowering struct {
	drafts []*draft
	fn     *draft
	scope  *scope
}

func lower(root *blockPart) (made lowered) {
	defer func() {
		switch left := recover().(type) {
		case nil:
		case nameFault:
			made = lowered{code: left.code, at: left.at}
		default:
			panic(left)
		}
	}()
	l := &lowering{}
	l.enterFn(unitFn{name: "main", rest: true})
	l.block(root)
	for _, d := range l.drafts {
		made.unit.fns = append(made.unit.fns, d.unitFn)
	}
	return made
}

func (l *lowering) fail(code int, p part) { panic(nameFault{code, p.place().from}) }

func (l *lowering) enterFn(f unitFn) {
	d := &draft{unitFn: f, number: len(l.drafts), outer: l.fn, upAt: map[variable]int{}}
	l.drafts = append(l.drafts, d)
	l.fn = d
}

func (l *lowering) open() { l.scope = &scope{map[string]meaning{}, l.scope} }

func (l *lowering) close() { l.scope = l.scope.outer }

func (l *lowering) emit(n node) int {
	l.fn.nodes = append(l.fn.nodes, n)
	return len(l.fn.nodes) - 1
}

// variable makes a variable of the fn at hand; a name for it is another thing.
func (l *lowering) variable(name string) int {
	l.fn.vars = append(l.fn.vars, name)
	return len(l.fn.vars) - 1
}

func (l *lowering) declare(names ...string) []int {
	var refs []int
	for _, name := range names {
		ref := l.variable(name)
		l.scope.names[name] = meaning{variable: variable{l.fn.number, ref}}
		refs = append(refs, ref)
	}
	return refs
}

func (l *lowering) block(b *blockPart) int {
	l.open()
	var kids []int
	for _, s := range b.stats {
		kids = append(kids, l.stat(s)...)
	}
	l.close()
	return l.emit(node{kind: nBlock, line: b.line, kids: kids})
}

func (l *lowering) loopBlock(b *blockPart) int {
	l.fn.loops++
	at := l.block(b)
	l.fn.loops--
	return at
}

// stat answers the places of the statements that a statement becomes: none for a const, two for a fn.
func (l *lowering) stat(p part) []int {
	var n node
	switch s := p.(type) {
	case *constPart:
		l.constant(s)
		return nil
	case *namedFnPart:
		return l.namedFn(s)
	case *blockPart:
		return []int{l.block(s)}
	case *letPart:
		kids := l.exprs(s.values)
		n = node{kind: nLet, kids: kids, refs: l.declare(s.names...)}
	case *setPart:
		n = l.set(s)
	case *doPart:
		n = node{kind: nDo, kids: []int{l.expr(s.call)}}
	case *deferPart:
		n = node{kind: nDefer, kids: []int{l.expr(s.call)}}
	case *ifPart:
		n = l.choice(s)
	case *whilePart:
		cond := l.expr(s.cond)
		n = node{kind: nWhile, kids: []int{cond, l.loopBlock(s.body)}}
	case *forPart:
		n = l.count(s)
	case *eachPart:
		n = l.each(s)
	case *breakPart:
		n = l.jump(s, nBreak)
	case *nextPart:
		n = l.jump(s, nNext)
	case *returnPart:
		n = node{kind: nReturn, kids: l.exprs(s.values)}
	case *tryPart:
		n = l.try(s)
	case *throwPart:
		n = node{kind: nThrow, kids: []int{l.expr(s.value)}}
	}
	n.line = p.place().line
	return []int{l.emit(n)}
}

// constant works the expression out from its nodes and takes them away again; one that can be worked out has made
// nothing but nodes.
func (l *lowering) constant(s *constPart) {
	mark := len(l.fn.nodes)
	at := l.expr(s.value)
	v, ok := workOut(l.fn.nodes, at)
	if !ok || math.IsNaN(v.flt) {
		l.fail(codeNoConst, s)
	}
	l.fn.nodes = l.fn.nodes[:mark]
	l.scope.names[s.name] = meaning{fixed: true, value: v}
}

func (l *lowering) namedFn(s *namedFnPart) []int {
	refs := l.declare(s.name)
	let := l.emit(node{kind: nLet, line: s.line, refs: refs})
	target := l.emit(node{kind: nVar, refs: []int{refs[0]}})
	made := l.function(s.fn, s.name)
	set := l.emit(node{kind: nSet, line: s.line, num: 1, kids: []int{target, made}})
	return []int{let, set}
}

func (l *lowering) set(s *setPart) node {
	var kids []int
	for _, target := range s.targets {
		if name, ok := target.(*namePart); ok {
			l.checkTarget(name)
		}
		kids = append(kids, l.expr(target))
	}
	return node{kind: nSet, num: int64(len(s.targets)), kids: append(kids, l.exprs(s.values)...)}
}

func (l *lowering) checkTarget(p *namePart) {
	if found, ok := l.scope.find(p.name); ok && found.fixed {
		l.fail(codeNotWritten, p)
	}
}

func (l *lowering) choice(s *ifPart) node {
	cond := l.expr(s.cond)
	kids := []int{cond, l.block(s.then)}
	if s.other != nil {
		kids = append(kids, l.stat(s.other)...)
	}
	return node{kind: nIf, kids: kids}
}

func (l *lowering) count(s *forPart) node {
	kids := l.exprs(s.bounds)
	if len(s.bounds) == 2 {
		kids = append(kids, l.emit(literal(intValue(1))))
	}
	l.open()
	refs := l.declare(s.name)
	kids = append(kids, l.loopBlock(s.body))
	l.close()
	return node{kind: nFor, refs: refs, kids: kids}
}

func (l *lowering) each(s *eachPart) node {
	over := l.expr(s.over)
	l.open()
	refs := l.declare(s.names...)
	kids := []int{over, l.loopBlock(s.body)}
	l.close()
	return node{kind: nEach, refs: refs, kids: kids}
}

func (l *lowering) jump(p part, kind int) node {
	if l.fn.loops == 0 {
		l.fail(codeNoLoop, p)
	}
	return node{kind: kind}
}

func (l *lowering) try(s *tryPart) node {
	body := l.block(s.body)
	l.open()
	refs := l.declare(s.names...)
	if len(refs) == 1 {
		refs = append(refs, l.variable("_")) // a variable only: no name in the text can mean it
	}
	kids := []int{body, l.block(s.handler)}
	l.close()
	return node{kind: nTry, refs: refs, kids: kids}
}

func (l *lowering) exprs(list []part) []int {
	var places []int
	for _, p := range list {
		places = append(places, l.expr(p))
	}
	return places
}

// expr answers the place of the node that an expression becomes.
func (l *lowering) expr(p part) int {
	switch e := p.(type) {
	case *literalPart:
		return l.emit(literal(e.value))
	case *restPart:
		if !l.fn.rest {
			l.fail(codeNoRest, e)
		}
		return l.emit(node{kind: nRest})
	case *namePart:
		return l.name(e)
	case *prefixPart:
		return l.emit(node{kind: nUnary, op: e.op, kids: []int{l.expr(e.of)}})
	case *infixPart:
		return l.infix(e)
	case *indexPart:
		return l.emit(node{kind: nIndex, kids: l.exprs(e.kids())})
	case *fieldPart:
		of := l.expr(e.of)
		return l.emit(node{kind: nIndex, kids: []int{of, l.emit(literal(strValue(e.name)))}})
	case *callPart:
		return l.emit(node{kind: nCall, kids: l.exprs(e.kids())})
	case *tablePart:
		return l.table(e)
	case *fnPart:
		return l.function(e, "")
	}
	return l.emit(node{kind: nOne, kids: l.exprs(p.kids())})
}

func (l *lowering) name(p *namePart) int {
	found, ok := l.scope.find(p.name)
	switch {
	case !ok:
		l.fail(codeNoName, p)
	case found.fixed:
		return l.emit(literal(found.value))
	case found.variable.fn == l.fn.number:
		return l.emit(node{kind: nVar, refs: []int{found.variable.index}})
	}
	return l.emit(node{kind: nUp, refs: []int{l.fn.up(found.variable)}})
}

func (l *lowering) infix(e *infixPart) int {
	kids := l.exprs(e.kids())
	switch e.op {
	case opBoth:
		return l.emit(node{kind: nAnd, kids: kids})
	case opEither:
		return l.emit(node{kind: nOr, kids: kids})
	}
	return l.emit(node{kind: nBinary, op: e.op, kids: kids})
}

func (l *lowering) table(e *tablePart) int {
	n := node{kind: nTable}
	var items int64
	for _, entry := range e.entries {
		n.op = 0
		switch entry := entry.(type) {
		case *itemPart:
			items++
			n.kids = append(n.kids, l.emit(literal(intValue(items))), l.expr(entry.value))
			n.op = spreading(entry.value)
		case *pairPart:
			n.kids = append(n.kids, l.exprs(entry.kids())...)
		case *namedPart:
			n.kids = append(n.kids, l.emit(literal(strValue(entry.name))), l.expr(entry.value))
		}
	}
	return l.emit(n)
}

// spreading is 1 for an expression that gives all its values where it is the last one.
func spreading(p part) int {
	switch p.(type) {
	case *callPart, *restPart:
		return 1
	}
	return 0
}

func (l *lowering) function(f *fnPart, name string) int {
	around := l.fn
	l.enterFn(unitFn{name: name, line: f.line, params: len(f.params), rest: f.rest})
	number := l.fn.number
	l.open()
	l.declare(f.params...)
	l.block(f.body)
	l.close()
	l.fn = around
	return l.emit(node{kind: nFn, refs: []int{number}})
}
