package impl

import (
	"slices"
	"strconv"
	"strings"
)

// A second machine, to hold the first one against: it steps through a unit with all that is going on written down as
// data, one row of steps yet to be done for each task, without closures, goroutines or a stack of Go's. What is in
// scope it takes from the place of the statement at hand.

type table2 struct {
	marked
	pairs []pair
	turns int
	kind  *table2
	wants bool
}

type fn2 struct {
	marked
	number int
	ups    []*box
}

type task2 struct {
	marked
	number  int
	state   string
	fn      *fn2
	steps   []*step
	calls   []*call2
	waiter  *task2
	leaving bool
	words   int
	dropped *way2
}

func (*table2) follow(*sight) {}
func (*fn2) follow(*sight)    {}
func (*task2) follow(*sight)  {}

type call2 struct {
	fn   *fn2
	code int
	vars []*box
	rest []value
	at   int // the node of the statement at hand, -1 ahead of the first
}

type way2 struct {
	kind  string // break, next, return, error, gone
	vals  []value
	trace string
}

type kept2 struct {
	at     int
	callee value
	args   []value
}

// step is something that has been begun and goes on when what is ahead of it on the row has ended.
type step struct {
	kind  string
	n     node
	kids  []int
	i     int
	limit bool
	vals  []value
	all   []value // what is needed without being held: values by the way
	kept  []kept2
	left  bool
	way   *way2
	at    int
	count func() (value, bool)
}

type machine2 struct {
	u       unit
	in      Input
	rep     Report
	views   []View // at each record
	cur     *task2
	tasks   int
	tables  []*table2
	read    int
	lives   int
	since   int
	over    bool
	scopes  []map[int][]int
	doing   int // a node to begin, or -1
	given   []value
	leaving *way2
}

// run2 is the report of a run, and what stands at each of its records.
func run2(u unit, in Input) (Report, []View) {
	m := &machine2{u: u, in: in, doing: -1}
	for i := range u.fns {
		m.scopes = append(m.scopes, map[int][]int{})
		m.scopeOf(i, len(u.fns[i].nodes)-1, numbers(u.fns[i].params))
	}
	text := &task2{state: "running"}
	m.cur = text
	call := &call2{vars: make([]*box, len(u.fns[0].vars)), at: -1}
	for _, arg := range in.Args {
		call.rest = append(call.rest, strValue(arg))
	}
	text.calls = append(text.calls, call)
	m.push(&step{kind: "text"})
	m.do(len(u.fns[0].nodes) - 1)
	for !m.over {
		m.step()
	}
	return m.rep, m.views
}

func numbers(n int) []int {
	var list []int
	for i := range n {
		list = append(list, i)
	}
	return list
}

// scopeOf notes for each statement the variables in scope there.
func (m *machine2) scopeOf(fn, at int, in []int) {
	n := m.u.fns[fn].nodes[at]
	m.scopes[fn][at] = in
	with := append(append([]int{}, in...), n.refs...)
	switch n.kind {
	case nBlock:
		for _, kid := range n.kids {
			m.scopeOf(fn, kid, in)
			if k := m.u.fns[fn].nodes[kid]; k.kind == nLet {
				in = append(append([]int{}, in...), k.refs...)
			}
		}
	case nIf:
		for _, kid := range n.kids[1:] {
			m.scopeOf(fn, kid, in)
		}
	case nWhile, nFor, nEach:
		m.scopeOf(fn, n.kids[len(n.kids)-1], with)
	case nTry:
		m.scopeOf(fn, n.kids[0], in)
		m.scopeOf(fn, n.kids[1], with)
	}
}

func (m *machine2) push(s *step)       { m.cur.steps = append(m.cur.steps, s) }
func (m *machine2) do(at int)          { m.doing = at }
func (m *machine2) give(vals ...value) { m.given, m.leaving, m.doing = vals, nil, -1 }
func (m *machine2) leave(w *way2)      { m.given, m.leaving, m.doing = nil, w, -1 }
func (m *machine2) call() *call2 {
	if len(m.cur.calls) == 0 {
		return nil
	}
	return m.cur.calls[len(m.cur.calls)-1]
}
func (m *machine2) node(at int) node { return m.u.fns[m.call().code].nodes[at] }

func (m *machine2) tick() {
	if m.over {
		return
	}
	if m.rep.Ticks == m.in.Ticks {
		m.end(2)
		return
	}
	m.rep.Ticks++
}

func (m *machine2) end(code int) { m.over, m.rep.Code = true, code }

func (m *machine2) rec(r Rec) {
	if !m.over {
		m.rep.Recs = append(m.rep.Recs, r)
		m.views = append(m.views, m.view())
	}
}

// view is what stands now.
func (m *machine2) view() View {
	v := View{Ok: true, Task: m.cur.number}
	for i := len(m.cur.calls) - 1; i >= 0; i-- {
		c := m.cur.calls[i]
		o := Open{Fn: c.code}
		if c.at >= 0 {
			o.Line = m.u.fns[c.code].nodes[c.at].line
		}
		in := m.inScope(c)
		for number, name := range m.u.fns[c.code].vars {
			if slices.Contains(in, number) {
				o.Vars = append(o.Vars, Shown{name, textOf(c.vars[number].value)})
			}
		}
		v.Calls = append(v.Calls, o)
	}
	return v
}

// inScope is what is in scope where a call stands.
func (m *machine2) inScope(c *call2) []int {
	if c.at < 0 {
		return numbers(m.u.fns[c.code].params)
	}
	return m.scopes[c.code][c.at]
}

func (m *machine2) recHere(kind, line int, text string) {
	fn := 0
	if c := m.call(); c != nil {
		fn = c.code
	}
	m.rec(Rec{kind, m.cur.number, fn, line, text})
}

func (m *machine2) line() int {
	if c := m.call(); c != nil && c.at >= 0 {
		return m.node(c.at).line
	}
	return 0
}

func told2(v value) string {
	if t, ok := v.ref.(*table2); ok {
		if c := t.get(strValue("code")); c.kind == kInt {
			return "error " + strconv.FormatInt(c.num, 10)
		}
	}
	return textOf(v)
}

func (m *machine2) throw(v value) {
	var trace []string
	for i := len(m.cur.calls) - 1; i >= 0; i-- {
		c := m.cur.calls[i]
		f, line := m.u.fns[c.code], 0
		if c.at >= 0 {
			line = f.nodes[c.at].line
		}
		if f.name == "" {
			f.name = "fn"
		}
		trace = append(trace, f.name+":"+strconv.Itoa(line))
	}
	m.recHere(RecThrow, m.line(), told2(v))
	m.leave(&way2{"error", []value{v}, strings.Join(trace, " ")})
}

func (m *machine2) fail(code int) {
	t := m.newTable()
	t.put(strValue("code"), intValue(int64(code)))
	t.put(strValue("line"), intValue(int64(m.line())))
	m.throw(value{kind: kTable, ref: t})
}

func (m *machine2) newTable() *table2 {
	t := &table2{}
	m.tables = append(m.tables, t)
	return t
}

func (t *table2) at(k value) int {
	place := key(k)
	for i, p := range t.pairs {
		if place.code == 0 && same(p.key, place.value) {
			return i
		}
	}
	return -1
}

func (t *table2) get(k value) value {
	if i := t.at(k); i >= 0 {
		return t.pairs[i].val
	}
	return value{}
}

func (t *table2) put(k, v value) {
	i := t.at(k)
	switch {
	case i >= 0 && v.kind == kNil:
		t.pairs = append(append([]pair{}, t.pairs[:i]...), t.pairs[i+1:]...)
	case i >= 0:
		t.pairs[i].val = v
	case v.kind != kNil:
		t.turns++
		t.pairs = append(t.pairs, pair{key(k).value, v, t.turns})
	}
}

func handler2(v value, name string) value {
	if t, ok := v.ref.(*table2); ok && t.kind != nil {
		return t.kind.get(strValue(name))
	}
	return value{}
}

// spend answers whether there is room for new cells; if not, the error is on its way.
func (m *machine2) spend(n int) bool {
	if m.lives+m.since+n > m.in.Cells {
		m.fail(errCells)
		return false
	}
	m.since += n
	m.rep.Made += n
	return true
}

func (m *machine2) step() {
	switch {
	case m.doing >= 0:
		at := m.doing
		m.doing, m.given, m.leaving = -1, nil, nil
		if n := m.node(at); n.kind > nBlock && n.kind < nNil {
			m.beginStatement(at, n)
		} else {
			m.begin(at, n)
		}
	case m.leaving != nil:
		s := m.pop()
		m.leaveThrough(s, m.leaving)
	default:
		s := m.pop()
		m.accept(s, m.given)
	}
}

func (m *machine2) pop() *step {
	s := m.cur.steps[len(m.cur.steps)-1]
	m.cur.steps = m.cur.steps[:len(m.cur.steps)-1]
	return s
}

func (m *machine2) beginStatement(at int, n node) {
	m.tick()
	m.push(&step{kind: "statement", at: m.call().at})
	m.call().at = at
	m.recHere(RecLine, n.line, "")
	switch n.kind {
	case nLet:
		m.push(&step{kind: "let", n: n})
		m.list(n.kids, len(n.refs) > 1 || len(n.kids) != 1)
	case nSet:
		m.targets(&step{kind: "targets", n: n})
	case nDo:
		m.do(n.kids[0])
	case nIf:
		m.push(&step{kind: "if", n: n})
		m.do(n.kids[0])
	case nWhile:
		m.whileTurn(n)
	case nFor:
		m.push(&step{kind: "bounds", n: n})
		m.list(n.kids[:3], true)
	case nEach:
		m.push(&step{kind: "over", n: n})
		m.do(n.kids[0])
	case nBreak:
		m.leave(&way2{kind: "break"})
	case nNext:
		m.leave(&way2{kind: "next"})
	case nReturn:
		m.push(&step{kind: "return"})
		m.list(n.kids, true)
	case nTry:
		m.push(&step{kind: "try", n: n})
		m.do(n.kids[0])
	case nThrow:
		m.push(&step{kind: "throw"})
		m.do(n.kids[0])
	case nDefer:
		m.push(&step{kind: "defer", at: at})
		m.push(&step{kind: "callee", n: m.node(n.kids[0]), i: 1})
		m.do(m.node(n.kids[0]).kids[0])
	}
}

func (m *machine2) begin(at int, n node) {
	switch n.kind {
	case nBlock:
		m.push(&step{kind: "block", n: n})
		m.give()
	case nVar:
		m.give(m.call().vars[n.refs[0]].value)
	case nUp:
		m.give(m.call().fn.ups[n.refs[0]].value)
	case nRest:
		m.give(m.call().rest...)
	case nAnd, nOr, nUnary, nBinary, nIndex:
		m.push(&step{kind: "operand", n: n})
		m.do(n.kids[0])
	case nCall:
		m.push(&step{kind: "callee", n: n})
		m.do(n.kids[0])
	case nOne:
		m.push(&step{kind: "one"})
		m.do(n.kids[0])
	case nTable:
		if m.spend(1) {
			m.push(&step{kind: "table", n: n, vals: []value{{kind: kTable, ref: m.newTable()}}})
			m.give()
		}
	case nFn:
		m.makeFn(n.refs[0])
	default:
		v, _ := workOut(m.u.fns[m.call().code].nodes, at)
		m.give(v)
	}
}

func (m *machine2) makeFn(number int) {
	ups := m.u.fns[number].ups
	if !m.spend(1 + len(ups)) {
		return
	}
	f := &fn2{number: number}
	for _, up := range ups {
		if up.local {
			f.ups = append(f.ups, m.call().vars[up.index])
		} else {
			f.ups = append(f.ups, m.call().fn.ups[up.index])
		}
	}
	m.give(value{kind: kFn, ref: f})
}

func (m *machine2) list(kids []int, limit bool) {
	if len(kids) == 0 {
		m.give()
		return
	}
	m.push(&step{kind: "list", kids: kids, limit: limit})
	m.do(kids[0])
}

func (m *machine2) spreads(at int) bool {
	kind := m.node(at).kind
	return kind == nCall || kind == nRest
}

func (m *machine2) targets(s *step) {
	for s.i < int(s.n.num) {
		if t := m.node(s.n.kids[s.i]); t.kind == nIndex && len(s.vals) < 2*s.i+2 {
			m.push(s)
			m.do(t.kids[len(s.vals)-2*s.i])
			return
		} else if t.kind != nIndex {
			s.vals = append(s.vals, value{}, value{})
		}
		s.i++
	}
	m.push(&step{kind: "assign", n: s.n, vals: s.vals, all: s.vals, i: -1})
	m.list(s.n.kids[s.n.num:], s.n.num > 1 || len(s.n.kids) != int(s.n.num)+1)
}

// assign goes on with the next target. all holds the parts of the targets, then their values.
func (m *machine2) assign(s *step) {
	count := int(s.n.num)
	s.i++
	if s.i == count {
		m.give()
		return
	}
	s.vals = append(append([]value{}, s.all[2*(s.i+1):2*count]...), s.all[2*count+s.i+1:]...)
	m.push(s)
	v, t := s.all[2*count+s.i], m.node(s.n.kids[s.i])
	switch t.kind {
	case nVar:
		m.call().vars[t.refs[0]].value = v
		m.give()
	case nUp:
		m.call().fn.ups[t.refs[0]].value = v
		m.give()
	default:
		m.write(s.all[2*s.i], s.all[2*s.i+1], v)
	}
}

func (m *machine2) declare(refs []int, vals []value) {
	for i, ref := range refs {
		m.call().vars[ref] = &box{nth(vals, i)}
	}
}

func (m *machine2) accept(s *step, vals []value) {
	one := nth(vals, 0)
	switch s.kind {
	case "text":
		m.finishText(vals)
	case "task":
		m.finishTask("done", append([]value{boolValue(true)}, vals...))
	case "call":
		m.recHere(RecBack, 0, "")
		m.cur.calls = m.cur.calls[:len(m.cur.calls)-1]
		m.give()
	case "statement":
		m.call().at = s.at
		m.give()
	case "block":
		if s.left {
			m.call().at = s.at
		}
		m.blockOn(s)
	case "let":
		m.declare(s.n.refs, vals)
		m.give()
	case "list":
		m.listOn(s, vals)
	case "targets":
		s.vals = append(s.vals, one)
		m.targets(s)
	case "assign":
		if s.i < 0 {
			values := append([]value{}, vals...)
			for len(values) < int(s.n.num) {
				values = append(values, value{})
			}
			s.all = append(append([]value{}, s.all...), values[:s.n.num]...)
		}
		m.assign(s)
	case "if":
		m.ifOn(s.n, truth(one))
	case "while":
		if truth(one) {
			m.push(&step{kind: "turn while", n: s.n})
			m.do(s.n.kids[1])
		} else {
			m.give()
		}
	case "bounds":
		m.bounds(s.n, vals)
	case "over":
		m.over2(s.n, one)
	case "each handler":
		m.eachCalls(s.n, one)
	case "each call":
		if one.kind == kNil {
			m.give()
		} else {
			m.declare(s.n.refs, vals)
			m.push(&step{kind: "turn calls", n: s.n, vals: s.vals})
			m.do(s.n.kids[1])
		}
	case "return":
		m.leave(&way2{kind: "return", vals: vals})
	case "throw":
		m.throw(one)
	case "try", "drop":
		m.give()
	case "one":
		m.give(one)
	case "truth":
		m.give(boolValue(truth(one) == s.left))
	case "operand":
		m.operand(s.n, one)
	case "second":
		m.second(s.n, s.vals[0], one)
	case "callee":
		m.push(&step{kind: "args", vals: []value{one}, i: s.i})
		m.list(s.n.kids[1:], true)
	case "args":
		if s.i == 1 {
			d := m.pop()
			b := m.cur.steps[len(m.cur.steps)-2]
			b.kept = append(b.kept, kept2{d.at, s.vals[0], vals})
			m.give()
		} else {
			m.invoke(s.vals[0], vals)
		}
	case "table":
		m.tableOn(s, vals)
	case "words":
		m.wordsOn(s)
	default:
		m.again(s)
	}
}

func (m *machine2) listOn(s *step, vals []value) {
	last := s.i == len(s.kids)-1
	if last && m.spreads(s.kids[s.i]) {
		if s.limit && len(s.vals)+len(vals) > maxList {
			m.fail(errLong)
			return
		}
		m.give(append(append([]value{}, s.vals...), vals...)...)
		return
	}
	s.vals = append(s.vals, nth(vals, 0))
	if last {
		m.give(s.vals...)
		return
	}
	s.i++
	m.push(s)
	m.do(s.kids[s.i])
}

func (m *machine2) ifOn(n node, is bool) {
	switch {
	case is:
		m.do(n.kids[1])
	case len(n.kids) == 3:
		m.do(n.kids[2])
	default:
		m.give()
	}
}

func (m *machine2) blockOn(s *step) {
	if !s.left && s.i < len(s.n.kids) {
		s.i++
		m.push(s)
		m.do(s.n.kids[s.i-1])
		return
	}
	s.left = true
	switch {
	case len(s.kept) > 0:
		d := s.kept[len(s.kept)-1]
		s.kept = s.kept[:len(s.kept)-1]
		s.at = m.call().at
		m.call().at = d.at
		m.push(s)
		m.invoke(d.callee, d.args)
	case s.way != nil:
		m.leave(s.way)
	default:
		m.give()
	}
}

func (m *machine2) leaveThrough(s *step, w *way2) {
	switch s.kind {
	case "text":
		m.leaveText(w)
	case "task":
		m.leaveTask(w)
	case "call":
		m.leaveCall(w)
	case "statement":
		m.call().at = s.at
	case "block":
		if s.left {
			m.call().at = s.at
		}
		if s.left && s.way != nil && s.way.kind == "gone" && w.kind == "error" {
			m.cur.dropped = w
		} else {
			s.way = w
		}
		s.left = true
		m.blockOn(s)
	case "try":
		if w.kind == "error" {
			m.recHere(RecCatch, s.n.line, told2(w.vals[0]))
			m.declare(s.n.refs, []value{w.vals[0], strValue(w.trace)})
			m.push(&step{kind: "drop"})
			m.do(s.n.kids[1])
		}
	case "words":
		m.rec(Rec{RecCatch, m.cur.number, 0, 0, told2(w.vals[0])})
		m.wordsOn(s)
	case "turn while", "turn for", "turn pairs", "turn calls":
		switch w.kind {
		case "break":
			m.give()
		case "next":
			m.again(s)
		}
	}
}

func (m *machine2) finishText(vals []value) {
	m.end(0)
	for _, v := range vals {
		m.rep.Vals = append(m.rep.Vals, textOf(v))
	}
}

func (m *machine2) leaveText(w *way2) {
	if w.kind == "return" {
		m.finishText(w.vals)
		return
	}
	m.end(1)
	m.rep.Error, m.rep.Trace = told2(w.vals[0]), w.trace
}

func (m *machine2) leaveCall(w *way2) {
	text := map[string]string{"return": "", "error": "error", "gone": "gone"}[w.kind]
	m.recHere(RecBack, 0, text)
	m.cur.calls = m.cur.calls[:len(m.cur.calls)-1]
	if w.kind == "return" {
		m.give(w.vals...)
	}
}

func (m *machine2) leaveTask(w *way2) {
	if w.kind == "error" {
		m.finishTask("error", []value{boolValue(false), w.vals[0], strValue(w.trace)})
		return
	}
	if d := m.cur.dropped; d != nil {
		m.finishTask("gone", []value{boolValue(false), d.vals[0], strValue(d.trace)})
		return
	}
	m.finishTask("gone", []value{boolValue(true)})
}

func (m *machine2) finishTask(text string, vals []value) {
	m.cur.state = "done"
	m.turnTo(m.cur.waiter, text)
	m.give(vals...)
}

func (m *machine2) turnTo(t *task2, text string) {
	m.cur = t
	t.state = "running"
	m.rec(Rec{RecTurn, t.number, 0, 0, text})
}

func (m *machine2) whileTurn(n node) {
	m.tick()
	m.push(&step{kind: "while", n: n})
	m.do(n.kids[0])
}

// again goes on with the next turn of a loop.
func (m *machine2) again(s *step) {
	switch s.kind {
	case "turn while":
		m.whileTurn(s.n)
	case "turn for":
		number, ok := s.count()
		if !ok {
			m.give()
			return
		}
		m.tick()
		m.declare(s.n.refs, []value{number})
		m.push(s)
		m.do(s.n.kids[3])
	case "turn pairs":
		for _, p := range s.vals[0].ref.(*table2).pairs {
			if p.turn > s.i {
				m.tick()
				s.i = p.turn
				m.declare(s.n.refs, []value{p.key, p.val})
				m.push(s)
				m.do(s.n.kids[1])
				return
			}
		}
		m.give()
	case "turn calls":
		m.eachCalls(s.n, s.vals[0])
	}
}

func (m *machine2) bounds(n node, vals []value) {
	ints, floats := true, []float64{}
	for _, v := range vals {
		if v.kind != kInt && v.kind != kFlt {
			m.fail(errType)
			return
		}
		ints = ints && v.kind == kInt
		floats = append(floats, v.float())
	}
	if !(floats[2] > 0) && !(floats[2] < 0) {
		m.fail(errStep)
		return
	}
	s := &step{kind: "turn for", n: n}
	i, x := vals[0].num, floats[0]
	done := false
	s.count = func() (value, bool) {
		if ints {
			now := i
			if done || floats[2] > 0 && now > vals[1].num || floats[2] < 0 && now < vals[1].num {
				return value{}, false
			}
			i = now + vals[2].num
			done = floats[2] > 0 && i < now || floats[2] < 0 && i > now
			return intValue(now), true
		}
		now := x
		x = now + floats[2]
		return floatValue(now), floats[2] > 0 && now <= floats[1] || floats[2] < 0 && now >= floats[1]
	}
	m.again(s)
}

func (m *machine2) over2(n node, v value) {
	if v.kind == kTable {
		h := handler2(v, "each")
		if h.kind != kNil {
			m.push(&step{kind: "each handler", n: n})
			m.invoke(h, []value{v})
			return
		}
		m.again(&step{kind: "turn pairs", n: n, vals: []value{v}})
		return
	}
	m.eachCalls(n, v)
}

func (m *machine2) eachCalls(n node, v value) {
	if v.kind != kFn && v.kind != kBuiltin {
		m.fail(errType)
		return
	}
	m.tick()
	m.push(&step{kind: "each call", n: n, vals: []value{v}})
	m.invoke(v, nil)
}

func (m *machine2) tableOn(s *step, vals []value) {
	t := s.vals[0].ref.(*table2)
	if s.i == len(s.n.kids) { // all was put in
		m.give(s.vals[0])
		return
	}
	spread := s.n.op == 1 && s.i == len(s.n.kids)-2
	switch {
	case spread && !s.left:
		s.left = true
		m.push(s)
		m.do(s.n.kids[s.i+1])
	case spread:
		for i, v := range vals {
			if !m.rawPut(t, intValue(m.node(s.n.kids[s.i]).num+int64(i)), v) {
				return
			}
		}
		m.give(s.vals[0])
	case !s.left:
		s.left = true
		m.push(s)
		m.do(s.n.kids[s.i])
	case len(s.vals) == 1:
		s.vals = append(s.vals, nth(vals, 0))
		m.push(s)
		m.do(s.n.kids[s.i+1])
	default:
		if m.rawPut(t, s.vals[1], nth(vals, 0)) {
			s.vals, s.left, s.i = s.vals[:1], false, s.i+2
			m.push(s)
			m.give()
		}
	}
}

// rawPut answers whether no error is on its way.
func (m *machine2) rawPut(t *table2, k, v value) bool {
	switch {
	case key(k).code != 0:
		m.fail(errKey)
		return false
	case t.at(k) < 0 && v.kind != kNil && len(t.pairs) == maxPairs:
		m.fail(errLong)
		return false
	case t.at(k) < 0 && v.kind != kNil && !m.spend(1):
		return false
	}
	t.put(k, v)
	return true
}

func (m *machine2) operand(n node, v value) {
	switch n.kind {
	case nAnd, nOr:
		if truth(v) == (n.kind == nOr) {
			m.give(v)
		} else {
			m.push(&step{kind: "one"})
			m.do(n.kids[1])
		}
	case nUnary:
		m.unary(n.op, v)
	default:
		m.push(&step{kind: "second", n: n, vals: []value{v}})
		m.do(n.kids[1])
	}
}

func (m *machine2) unary(op int, v value) {
	name := map[int]string{opNeg: "neg", opFlip: "flip", opLen: "len"}[op]
	got := unary(op, v)
	h := handler2(v, name)
	t, is := v.ref.(*table2)
	switch {
	case got.code == 0:
		m.give(got.value)
	case h.kind != kNil:
		m.push(&step{kind: "one"})
		m.invoke(h, []value{v})
	case is && op == opLen:
		n := int64(0)
		for t.at(intValue(n+1)) >= 0 {
			n++
		}
		m.give(intValue(n))
	default:
		m.fail(got.code)
	}
}

func (m *machine2) second(n node, a, b value) {
	if n.kind == nIndex {
		m.readAt(a, b)
		return
	}
	op := n.op
	if op == opJoin {
		m.tick()
	}
	if op == opEq || op == opNe {
		h := handler2(a, "eq")
		if h.kind == kNil {
			h = handler2(b, "eq")
		}
		if a.kind == kTable && b.kind == kTable && !same(a, b) && h.kind != kNil {
			m.push(&step{kind: "truth", left: op == opEq})
			m.invoke(h, []value{a, b})
			return
		}
	}
	got := binary(op, a, b)
	names := []string{"", "add", "sub", "mul", "div", "idiv", "mod", "and", "or", "xor", "shl", "shr", "join", "", "", "lt", "le", "lt", "le"}
	if op == opGt || op == opGe {
		a, b = b, a
	}
	h := handler2(a, names[op])
	if h.kind == kNil {
		h = handler2(b, names[op])
	}
	switch {
	case got.code == 0:
		m.give(got.value)
	case got.code != errType || h.kind == kNil:
		m.fail(got.code)
	default:
		if op >= opLt {
			m.push(&step{kind: "truth", left: true})
		} else {
			m.push(&step{kind: "one"})
		}
		m.invoke(h, []value{a, b})
	}
}

func (m *machine2) readAt(v, k value) {
	if v.kind != kTable {
		m.fail(errIndex)
		return
	}
	for i := 0; ; i++ {
		got, h := v.ref.(*table2).get(k), handler2(v, "index")
		switch {
		case got.kind != kNil || h.kind == kNil:
			m.give(got)
			return
		case h.kind != kTable:
			m.push(&step{kind: "one"})
			m.invoke(h, []value{v, k})
			return
		case i == maxChain:
			m.fail(errLoop)
			return
		}
		v = h
	}
}

func (m *machine2) write(v, k, val value) {
	if v.kind != kTable {
		m.fail(errIndex)
		return
	}
	if key(k).code != 0 {
		m.fail(errKey)
		return
	}
	for i := 0; ; i++ {
		t, h := v.ref.(*table2), handler2(v, "setindex")
		switch {
		case t.at(k) >= 0 || h.kind == kNil:
			if m.rawPut(t, k, val) {
				m.give()
			}
			return
		case h.kind != kTable:
			m.invoke(h, []value{v, k, val})
			return
		case i == maxChain:
			m.fail(errLoop)
			return
		}
		v = h
	}
}

func (m *machine2) invoke(callee value, args []value) {
	for i := 0; ; i++ {
		m.tick()
		if m.over {
			return
		}
		h := handler2(callee, "call")
		switch {
		case callee.kind == kFn:
			m.open(callee.ref.(*fn2), args)
			return
		case callee.kind == kBuiltin:
			m.builtin(builtins[callee.num], args)
			return
		case h.kind == kNil:
			m.fail(errCall)
			return
		case i == maxChain:
			m.fail(errLoop)
			return
		}
		args = append([]value{callee}, args...)
		callee = h
	}
}

func (m *machine2) open(fn *fn2, args []value) {
	open := 0
	for t := m.cur; t != nil; t = t.waiter {
		open += len(t.calls)
	}
	if open >= m.in.Depth {
		m.fail(errDepth)
		return
	}
	f := m.u.fns[fn.number]
	call := &call2{fn: fn, code: fn.number, vars: make([]*box, len(f.vars)), at: -1}
	m.cur.calls = append(m.cur.calls, call)
	m.declare(numbers(f.params), args)
	if f.rest && len(args) > f.params {
		call.rest = args[f.params:]
	}
	m.recHere(RecCall, f.line, f.name)
	m.push(&step{kind: "call"})
	m.do(len(f.nodes) - 1)
}

func (m *machine2) builtin(name string, args []value) {
	a, b, c := nth(args, 0), nth(args, 1), nth(args, 2)
	ta, isTable := a.ref.(*table2)
	tb, isSecond := b.ref.(*table2)
	task, isTask := a.ref.(*task2)
	switch name {
	case "print":
		var texts []string
		for _, v := range args {
			texts = append(texts, textOf(v))
		}
		if text := strings.Join(texts, " "); len(text) > maxStr {
			m.fail(errLong)
		} else {
			m.recHere(RecPrint, m.line(), text)
			m.give()
		}
	case "read":
		if m.read < len(m.in.Lines) {
			m.read++
			m.give(strValue(m.in.Lines[m.read-1]))
		} else {
			m.give(value{})
		}
	case "type":
		m.give(strValue([]string{"nil", "bool", "int", "float", "str", "table", "fn", "task", "fn"}[a.kind]))
	case "text":
		m.give(strValue(textOf(a)))
	case "setkind":
		if !isTable || !isSecond && b.kind != kNil {
			m.fail(errArgs)
			return
		}
		ta.kind = tb
		ta.wants = tb != nil && tb.get(strValue("last")).kind == kFn
		m.give(a)
	case "kind":
		if isTable && ta.kind != nil {
			m.give(value{kind: kTable, ref: ta.kind})
		} else {
			m.give(value{})
		}
	case "rawget", "rawset":
		if !isTable {
			m.fail(errArgs)
		} else if name == "rawget" {
			m.give(ta.get(b))
		} else if m.rawPut(ta, b, c) {
			m.give()
		}
	case "task":
		m.makeTask(a)
	case "collect":
		m.collect()
	case "cells":
		_, cells := m.reached()
		m.give(intValue(int64(cells)))
	case "yield":
		m.yield(args)
	default:
		if !isTask {
			m.fail(errArgs)
		} else if name == "status" {
			m.give(strValue(task.state))
		} else if task.state != "new" && task.state != "waiting" {
			m.fail(errTask)
		} else if name == "resume" {
			m.resume(task, args[1:])
		} else {
			m.giveUp(task)
		}
	}
}

func (m *machine2) makeTask(a value) {
	switch {
	case a.kind != kFn:
		m.fail(errArgs)
	case m.tasks == MaxTasks:
		m.fail(errTask)
	case m.spend(1):
		m.tasks++
		m.give(value{kind: kTask, ref: &task2{number: m.tasks, state: "new", fn: a.ref.(*fn2)}})
	}
}

func (m *machine2) resume(t *task2, args []value) {
	isNew := t.state == "new"
	t.waiter = m.cur
	m.cur.state = "busy"
	m.turnTo(t, "resume")
	if isNew {
		m.push(&step{kind: "task"})
		m.invoke(value{kind: kFn, ref: t.fn}, args)
	} else {
		m.give(args...)
	}
}

func (m *machine2) yield(args []value) {
	if m.cur.number == 0 || m.cur.leaving || m.cur.words > 0 {
		m.fail(errTask)
		return
	}
	m.cur.state = "waiting"
	m.turnTo(m.cur.waiter, "yield")
	m.give(append([]value{boolValue(true)}, args...)...)
}

func (m *machine2) giveUp(t *task2) {
	if t.state == "new" {
		t.state = "done"
		m.give(boolValue(true))
		return
	}
	t.waiter = m.cur
	m.cur.state = "busy"
	t.leaving = true
	for _, s := range t.steps {
		if s.kind == "block" && s.left {
			s.way = &way2{kind: "gone"}
		}
	}
	m.turnTo(t, "giveup")
	m.leave(&way2{kind: "gone"})
}

// reached is what is reached, worked out by going over all of it until nothing new comes, and the cells counted.
func (m *machine2) reached() (map[thing]int, int) {
	got := map[thing]int{}
	var work []thing
	visit := func(vals ...value) {
		for _, v := range vals {
			if v.ref != nil && got[v.ref] == 0 {
				got[v.ref] = 1
				work = append(work, v.ref)
			}
		}
	}
	for t := m.cur; t != nil; t = t.waiter {
		visit(value{kind: kTask, ref: t})
	}
	for again := true; again; {
		for len(work) > 0 {
			x := work[0]
			work = work[1:]
			m.follow2(x, visit)
		}
		before := len(got)
		for _, t := range m.tables {
			if keys, values := t.weak(); got[t] == 1 && keys && !values {
				for _, p := range t.pairs {
					if p.key.ref == nil || got[p.key.ref] == 1 {
						visit(p.val)
					}
				}
			}
		}
		again = len(got) > before
	}
	cells := 0
	for x := range got {
		switch x := x.(type) {
		case *table2:
			cells += 1 + len(x.pairs)
		case *fn2:
			cells += 1 + len(x.ups)
		case *task2:
			cells += min(x.number, 1)
		}
	}
	return got, cells
}

func (t *table2) weak() (keys, values bool) {
	if t.kind == nil {
		return false, false
	}
	w := t.kind.get(strValue("weak"))
	return w.kind == kStr && strings.Contains(w.str, "k"), w.kind == kStr && strings.Contains(w.str, "v")
}

func (m *machine2) follow2(x thing, visit func(...value)) {
	switch x := x.(type) {
	case *table2:
		if x.kind != nil {
			visit(value{kind: kTable, ref: x.kind})
		}
		keys, values := x.weak()
		for _, p := range x.pairs {
			if !keys {
				visit(p.key)
			}
			if !keys && !values {
				visit(p.val)
			}
		}
	case *fn2:
		for _, up := range x.ups {
			visit(up.value)
		}
	case *task2:
		m.followTask(x, visit)
	}
}

func (m *machine2) followTask(t *task2, visit func(...value)) {
	switch t.state {
	case "done":
		return
	case "new":
		visit(value{kind: kFn, ref: t.fn})
	}
	for _, c := range t.calls {
		if c.fn != nil {
			visit(value{kind: kFn, ref: c.fn})
		}
		for _, number := range m.inScope(c) {
			visit(c.vars[number].value)
		}
		visit(c.rest...)
	}
	for _, s := range t.steps {
		visit(s.vals...)
		for _, k := range s.kept {
			visit(k.callee)
			visit(k.args...)
		}
		if s.way != nil {
			visit(s.way.vals...)
		}
	}
	if t.dropped != nil {
		visit(t.dropped.vals...)
	}
}

func (m *machine2) collect() {
	got, _ := m.reached()
	lost := func(v value) bool { return v.ref != nil && got[v.ref] == 0 }
	for _, t := range m.tables {
		keys, values := t.weak()
		if got[t] == 0 || !keys && !values {
			continue
		}
		for _, p := range append([]pair{}, t.pairs...) {
			if keys && lost(p.key) || values && lost(p.val) {
				t.put(p.key, value{})
			}
		}
	}
	words := &step{kind: "words"}
	for _, t := range m.tables {
		if !t.wants || got[t] == 1 {
			continue
		}
		t.wants = false
		if fn := t.kind.get(strValue("last")); fn.kind == kFn {
			words.vals = append(words.vals, fn, value{kind: kTable, ref: t})
		}
	}
	if len(words.vals) > 0 {
		m.cur.words++
		m.wordsOn(words)
		return
	}
	_, m.lives = m.reached()
	m.since = 0
	m.give(intValue(int64(m.lives)))
}

func (m *machine2) wordsOn(s *step) {
	if s.i == len(s.vals) {
		m.cur.words--
		m.collect()
		return
	}
	s.i += 2
	m.push(s)
	m.rec(Rec{RecLast, m.cur.number, 0, 0, ""})
	m.invoke(s.vals[s.i-2], []value{s.vals[s.i-1]})
}
