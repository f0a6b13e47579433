package impl

import "iter"

// parsed is the tree of a text, or the place of the byte at which the text cannot be one.
type parsed struct {
	ok   bool
	root *blockPart
	at   int
}

// formFault is what the parser leaves by when the text is not well-formed.
type formFault struct{ at int }

// parser reads a text with one token of sight. Wanted is the set of all that may stand where the token at hand does:
// each question for a kind adds to it, each token that is taken empties it.
type parser struct {
	text   string
	pull   func() (token, bool)
	tok    token
	wanted kindSet
	nest   int
}

func parse(text string) (tree parsed) {
	pull, stop := iter.Pull(tokens(text))
	defer stop()
	defer func() {
		switch left := recover().(type) {
		case nil:
		case formFault:
			tree = parsed{at: left.at}
		default:
			panic(left)
		}
	}()
	p := parser{text: text, pull: pull}
	p.advance()
	stats := p.stats(tEnd)
	return parsed{ok: true, root: &blockPart{header{0, 1}, stats}}
}

func (p *parser) advance() {
	if t, ok := p.pull(); ok {
		p.tok = t
	}
	p.wanted = 0
}

func (p *parser) want(kinds kindSet) { p.wanted |= kinds }

func (p *parser) at(kind int) bool {
	p.want(1 << kind)
	return p.tok.kind == kind
}

func (p *parser) take(kind int) bool {
	if !p.at(kind) {
		return false
	}
	p.advance()
	return true
}

func (p *parser) expect(kind int) {
	if !p.take(kind) {
		p.fail()
	}
}

func (p *parser) name() string {
	name := p.tok.text
	p.expect(tName)
	return name
}

func (p *parser) here() header { return header{p.tok.from, p.tok.line} }

// over tells whether a newline ends the statement here; tail says that it could end here.
func (p *parser) over(tail bool) bool { return tail && p.tok.fresh }

func (p *parser) fail() { panic(formFault{p.faultPlace()}) }

// faultPlace is the place behind the longest piece of the token at hand with which something wanted begins.
func (p *parser) faultPlace() int {
	t := p.tok
	if t.kind == tBroken && p.wanted.has(t.like) {
		return t.to
	}
	piece := p.text[t.from:t.to]
	if piece != "" && isLetter(piece[0]) && p.wanted.has(tName) {
		return t.to
	}
	longest := sharedLength(piece, remark)
	for kind, spelling := range spelled {
		if p.wanted.has(kind) {
			longest = max(longest, sharedLength(piece, spelling))
		}
	}
	return t.from + longest
}

func sharedLength(a, b string) int {
	n := 0
	for n < len(a) && n < len(b) && a[n] == b[n] {
		n++
	}
	return n
}

// enter keeps the recursion within what a stack holds. Only in a text of more than MaxText bytes can it go so deep,
// and with each step there is a part more around: such a tree is far from sound, wherever its form goes wrong.
func (p *parser) enter() {
	p.nest++
	if p.nest > MaxText {
		panic(formFault{p.tok.from})
	}
}

func (p *parser) leave() { p.nest-- }

// stats reads statements up to the closer, which it leaves where it is.
func (p *parser) stats(closer int) []part {
	var list []part
	for {
		for p.take(tSep) {
		}
		if p.at(closer) {
			return list
		}
		list = append(list, p.stat())
		if !p.tok.fresh && !p.at(tSep) && !p.at(closer) { // behind a statement a newline always separates
			p.fail()
		}
	}
}

func (p *parser) block() *blockPart {
	p.enter()
	head := p.here()
	p.expect(tBegin)
	stats := p.stats(tFinish)
	p.expect(tFinish)
	p.leave()
	return &blockPart{head, stats}
}

func (p *parser) stat() part {
	p.want(statKinds)
	head := p.here()
	kind := p.tok.kind
	switch kind {
	case tBegin:
		return p.block()
	case tName, tOpen:
		return p.simple(head)
	}
	if !statKinds.has(kind) {
		p.fail()
	}
	p.advance()
	switch kind {
	case tLet:
		return p.letStat(head)
	case tConst:
		name := p.name()
		p.expect(tIs)
		return &constPart{head, name, p.expr(true)}
	case tFn:
		name := p.name()
		return &namedFnPart{head, name, p.body(p.here())}
	case tIf:
		return p.ifStat(head)
	case tWhile:
		cond := p.expr(false)
		return &whilePart{head, cond, p.block()}
	case tFor:
		return p.forStat(head)
	case tBreak:
		return &breakPart{leaf{head}}
	case tNext:
		return &nextPart{leaf{head}}
	case tReturn:
		return p.returnStat(head)
	case tTry:
		return p.tryStat(head)
	case tThrow:
		return &throwPart{head, p.expr(true)}
	}
	return p.deferStat(head)
}

func (p *parser) letStat(head header) part {
	list := []string{p.name()}
	for !p.tok.fresh && p.take(tComma) {
		list = append(list, p.name())
	}
	if p.tok.fresh || !p.take(tIs) {
		return &letPart{header: head, names: list}
	}
	return &letPart{head, list, p.exprs(true)}
}

func (p *parser) ifStat(head header) part {
	made := &ifPart{header: head, cond: p.expr(false), then: p.block()}
	if p.tok.fresh {
		return made
	}
	elif := p.here()
	if p.take(tElif) {
		p.enter()
		made.other = p.ifStat(elif)
		p.leave()
	} else if p.take(tElse) {
		made.other = p.block()
	}
	return made
}

func (p *parser) forStat(head header) part {
	list := []string{p.name()}
	if p.take(tIs) {
		return p.countStat(head, list[0])
	}
	for p.take(tComma) {
		list = append(list, p.name())
	}
	p.expect(tIn)
	over := p.expr(false)
	return &eachPart{head, list, over, p.block()}
}

func (p *parser) countStat(head header, name string) part {
	bounds := []part{p.expr(false)}
	p.expect(tComma)
	bounds = append(bounds, p.expr(false))
	if p.take(tComma) {
		bounds = append(bounds, p.expr(false))
	}
	return &forPart{head, name, bounds, p.block()}
}

func (p *parser) returnStat(head header) part {
	if p.tok.fresh {
		return &returnPart{header: head}
	}
	p.want(unitKinds)
	if !unitKinds.has(p.tok.kind) {
		return &returnPart{header: head}
	}
	return &returnPart{head, p.exprs(true)}
}

func (p *parser) tryStat(head header) part {
	body := p.block()
	p.expect(tCatch)
	list := []string{p.name()}
	if p.take(tComma) {
		list = append(list, p.name())
	}
	return &tryPart{head, body, list, p.block()}
}

func (p *parser) deferStat(head header) part {
	of := p.chain(true)
	if of.sort != sortCall {
		p.fail()
	}
	return &deferPart{head, of.part}
}

// simple reads a call or an assignment; which of them it is shows only behind the first base.
func (p *parser) simple(head header) part {
	of := p.chain(true)
	if of.sort == sortCall {
		return &doPart{head, of.part}
	}
	targets := []part{p.target(of)}
	for p.take(tComma) {
		targets = append(targets, p.target(p.chain(false)))
	}
	p.expect(tIs)
	return &setPart{head, targets, p.exprs(true)}
}

func (p *parser) target(of operand) part {
	if of.sort != sortTarget {
		p.fail()
	}
	return of.part
}

// chain reads a base and its suffixes; with tail the statement may end behind a call.
func (p *parser) chain(tail bool) operand {
	of := p.chainStart()
	for more := true; more && !(of.sort == sortCall && p.over(tail)); {
		of, more = p.suffix(of)
	}
	return of
}

func (p *parser) chainStart() operand {
	head := p.here()
	if p.take(tOpen) {
		inner := p.expr(false)
		p.expect(tClose)
		return parenthesized(head, inner)
	}
	return operand{&namePart{leaf{head}, p.name()}, head, sortTarget}
}

func (p *parser) exprs(tail bool) []part {
	list := []part{p.expr(tail)}
	for !p.over(tail) && p.take(tComma) {
		list = append(list, p.expr(tail))
	}
	return list
}

// body reads the parameters and the block of a fn.
func (p *parser) body(head header) *fnPart {
	made := &fnPart{header: head}
	p.expect(tOpen)
	if !p.take(tClose) {
		p.params(made)
		p.expect(tClose)
	}
	made.body = p.block()
	return made
}

func (p *parser) params(made *fnPart) {
	for {
		if p.take(tRest) {
			made.rest = true
			return
		}
		made.params = append(made.params, p.name())
		if !p.take(tComma) {
			return
		}
	}
}
