package impl

import (
	"fmt"
	"math"
	"math/rand"
	"reflect"
	"strconv"
	"strings"
	"testing"
)

// scribe writes a unit down as a text that becomes this unit again, but for the names of variables.
type scribe struct {
	u      unit
	fn     int
	b      strings.Builder
	line   int
	consts map[value]string
	named  map[variable]string // variables that are written by a named fn
}

func written(u unit) string {
	s := &scribe{u: u, line: 1, consts: map[value]string{}, named: map[variable]string{}}
	for number, name := range builtins {
		s.write("const b" + strconv.Itoa(number) + " = " + name + "; ")
	}
	for _, f := range u.fns {
		for _, n := range f.nodes {
			if v := floatValue(n.flt); n.kind == nFlt && math.Signbit(n.flt) && s.consts[v] == "" && n.flt != 0 {
				s.consts[v] = "c" + strconv.Itoa(len(s.consts))
				s.write("const " + s.consts[v] + " = -" + decimal(-n.flt) + "; ")
			}
		}
	}
	s.write("const nought = -0.0; ")
	s.row(s.node(len(u.fns[0].nodes) - 1).kids)
	return s.b.String()
}

func decimal(flt float64) string {
	if math.IsInf(flt, 1) {
		return "1e999"
	}
	return strconv.FormatFloat(flt, 'e', -1, 64)
}

func (s *scribe) write(text string) { s.b.WriteString(text) }
func (s *scribe) node(at int) node  { return s.u.fns[s.fn].nodes[at] }
func (s *scribe) goTo(line int) {
	s.write(strings.Repeat("\n", max(0, line-s.line)))
	s.line = max(line, s.line)
}

func (s *scribe) variable(fn, number int) string {
	if name := s.named[variable{fn, number}]; name != "" {
		return name
	}
	return "v" + strconv.Itoa(fn) + "_" + strconv.Itoa(number)
}

func (s *scribe) names(refs []int) {
	for i, ref := range refs {
		if i > 0 {
			s.write(", ")
		}
		s.write(s.variable(s.fn, ref))
	}
}

func (s *scribe) exprs(kids []int) {
	for i, kid := range kids {
		if i > 0 {
			s.write(", ")
		}
		s.expr(kid)
	}
}

func (s *scribe) block(at, endLine int) {
	n := s.node(at)
	s.write("{")
	s.row(n.kids)
	s.goTo(endLine)
	s.write("}")
}

func (s *scribe) row(kids []int) {
	for i := 0; i < len(kids); i++ {
		i += s.stat(kids, i)
	}
}

// stat writes one statement of a row, or two that are a named fn, and answers how many more than one.
func (s *scribe) stat(kids []int, i int) int {
	n := s.node(kids[i])
	if n.kind != nBlock {
		s.goTo(n.line)
	}
	if n.kind == nLet && len(n.kids) == 0 && i+1 < len(kids) {
		if next := s.node(kids[i+1]); next.kind == nSet && len(next.kids) == 2 && s.node(next.kids[1]).kind == nFn {
			number := s.node(next.kids[1]).refs[0]
			if f := s.u.fns[number]; f.name != "" {
				s.named[variable{s.fn, n.refs[0]}] = f.name
				s.write("fn " + f.name)
				s.body(number)
				s.write("; ")
				return 1
			}
		}
	}
	s.deed(n, kids[i])
	s.write("; ")
	return 0
}

func (s *scribe) deed(n node, at int) {
	switch n.kind {
	case nBlock:
		s.block(at, 0)
	case nLet:
		s.write("let ")
		s.names(n.refs)
		if len(n.kids) > 0 {
			s.write(" = ")
			s.exprs(n.kids)
		}
	case nSet:
		s.exprs(n.kids[:n.num])
		s.write(" = ")
		s.exprs(n.kids[n.num:])
	case nDo:
		s.expr(n.kids[0])
	case nIf:
		s.choice(n)
	case nWhile:
		s.write("while ")
		s.expr(n.kids[0])
		s.block(n.kids[1], 0)
	case nFor:
		s.write("for ")
		s.names(n.refs)
		s.write(" = ")
		s.exprs(n.kids[:3])
		s.block(n.kids[3], 0)
	case nEach:
		s.write("for ")
		s.names(n.refs)
		s.write(" in ")
		s.expr(n.kids[0])
		s.block(n.kids[1], 0)
	case nBreak:
		s.write("break")
	case nNext:
		s.write("next")
	case nReturn:
		s.write("return ")
		s.exprs(n.kids)
	case nTry:
		s.write("try ")
		s.block(n.kids[0], 0)
		s.write(" catch ")
		s.names(n.refs)
		s.block(n.kids[1], 0)
	case nThrow:
		s.write("throw ")
		s.expr(n.kids[0])
	case nDefer:
		s.write("defer ")
		s.expr(n.kids[0])
	}
}

func (s *scribe) choice(n node) {
	s.write("if ")
	s.expr(n.kids[0])
	if len(n.kids) == 2 {
		s.block(n.kids[1], 0)
		return
	}
	other := s.node(n.kids[2])
	if other.kind == nBlock {
		s.block(n.kids[1], 0)
		s.write(" else ")
		s.block(n.kids[2], 0)
		return
	}
	s.block(n.kids[1], other.line)
	s.write(" el")
	s.choice(other)
}

func (s *scribe) body(number int) {
	f := s.u.fns[number]
	s.goTo(f.line)
	around := s.fn
	s.fn = number
	s.write("(")
	for i := range f.params {
		s.write(s.variable(number, i))
		if i+1 < f.params || f.rest {
			s.write(", ")
		}
	}
	if f.rest {
		s.write("...")
	}
	s.write(")")
	s.block(len(f.nodes)-1, 0)
	s.fn = around
}

// upName finds the variable that an up of a fn is.
func (s *scribe) upName(fn, at int) string {
	up := s.u.fns[fn].ups[at]
	outer := 0
	for number, f := range s.u.fns {
		for _, n := range f.nodes {
			if n.kind == nFn && n.refs[0] == fn {
				outer = number
			}
		}
	}
	if up.local {
		return s.variable(outer, up.index)
	}
	return s.upName(outer, up.index)
}

func (s *scribe) expr(at int) {
	n := s.node(at)
	switch n.kind {
	case nNil, nTrue, nFalse:
		s.write(map[int]string{nNil: "nil", nTrue: "true", nFalse: "false"}[n.kind])
	case nInt:
		s.write("0x" + strconv.FormatUint(uint64(n.num), 16))
	case nFlt:
		switch {
		case n.flt == 0 && math.Signbit(n.flt):
			s.write("nought")
		case math.Signbit(n.flt):
			s.write(s.consts[floatValue(n.flt)])
		default:
			s.write(decimal(n.flt))
		}
	case nStr:
		s.write(quote(n.str))
	case nVar:
		s.write(s.variable(s.fn, n.refs[0]))
	case nUp:
		s.write(s.upName(s.fn, n.refs[0]))
	case nBuiltin:
		s.write("b" + fmt.Sprint(n.num))
	case nRest:
		s.write("...")
	case nOne:
		s.write("(")
		s.expr(n.kids[0])
		s.write(")")
	case nIndex:
		s.base(n.kids[0])
		s.write("[")
		s.expr(n.kids[1])
		s.write("]")
	case nCall:
		s.base(n.kids[0])
		s.write("(")
		s.exprs(n.kids[1:])
		s.write(")")
	case nTable:
		s.table(n)
	case nFn:
		s.write("(")
		s.goTo(s.u.fns[n.refs[0]].line)
		s.write("fn")
		s.body(n.refs[0])
		s.write(")")
	case nUnary:
		s.write("(" + map[int]string{opNeg: "- ", opFlip: "~", opNot: "not ", opLen: "#"}[n.op])
		s.expr(n.kids[0])
		s.write(")")
	default:
		s.infix(n)
	}
}

func (s *scribe) infix(n node) {
	sign := map[int]string{nAnd: "and", nOr: "or"}[n.kind]
	if n.kind == nBinary {
		sign = strings.Fields("+ - * / // % & | ~ << >> .. == ~= < <= > >=")[n.op-1]
	}
	s.write("(")
	s.expr(n.kids[0])
	s.write(" " + sign + " ")
	s.expr(n.kids[1])
	s.write(")")
}

func (s *scribe) base(at int) {
	switch s.node(at).kind {
	case nVar, nUp, nBuiltin, nIndex, nCall, nOne:
		s.expr(at)
	default:
		s.write("(")
		s.expr(at)
		s.write(")")
	}
}

func (s *scribe) table(n node) {
	items := int64(0)
	if n.op == 1 {
		items = s.node(n.kids[len(n.kids)-2]).num
	}
	next := int64(1)
	s.write("{")
	for i := 0; i < len(n.kids); i += 2 {
		k := s.node(n.kids[i])
		if k.kind == nInt && k.num == next && next <= items && (next < items || i == len(n.kids)-2) {
			next++
		} else {
			s.write("[")
			s.expr(n.kids[i])
			s.write("] = ")
		}
		s.expr(n.kids[i+1])
		if i+2 < len(n.kids) {
			s.write(", ")
		}
	}
	s.write("}")
}

// bare is a unit without the names of its variables.
func bare(u unit) unit {
	var out unit
	for _, f := range u.fns {
		f.vars = make([]string, len(f.vars))
		f.nodes = append([]node{}, f.nodes...)
		for i := range f.nodes {
			f.nodes[i].line *= min(1, f.nodes[i].kind-nBlock)
		}
		out.fns = append(out.fns, f)
	}
	return out
}

func TestAWrittenUnitIsTheUnit(t *testing.T) {
	texts := []string{
		"", "return -0.0, 0.0, 1e999, 0.1, 5e-324, 0xffffffffffffffff, \"\\n\\x00\\\"\", nil, true, false",
		"const K = -1.5; const I = -1e999; const N = -0.0; return K, I, N, K, -1.5, - -1",
		"const P = print; fn print(x) {P(x)}; print(1)",
		"let a, b, c = {1, [1] = 2, 3, .x = 4, ...}, {[1] = 5, ...}, {[1] = 6, 7, (...)}\nreturn a[1], a[3], b[1], c[1]",
		"if read() == 1 {\n} elif\nread() {\nprint(1)\n} elif 2 {\n} else {\nprint(3)\n}",
		"fn f\n\n(a, ...) {\nlet g = fn\n(b) {\nreturn a, b\n}\nreturn g(...)\n}\nprint(f(1, 2))",
		"let x = 1\nfn f() {fn f() {x = x + 1\nreturn fn() {return x, f}}\nreturn f()()}\nprint(f())",
		"try {throw 1} catch e {print(e)}\ntry {throw 2} catch e, r {print(e, r)}",
		"for i = 1, 3 {for k, v, a, b in {i} {while true {{break}}\nnext}}",
	}
	for seed := int64(1); seed < 300; seed++ {
		texts = append(texts, anyProgram(seed))
	}
	for _, text := range texts {
		checked, u := unitOf(text)
		if checked.Code == codeLarge {
			continue
		}
		if checked.Code != 0 {
			t.Fatalf("%v\n%s", checked, text)
		}
		other := written(u)
		checked, again := unitOf(other)
		if checked.Code != 0 || !reflect.DeepEqual(bare(u), bare(again)) {
			t.Fatalf("%v\n%s\nwas written as\n%s", checked, text, other)
		}
		in := anyAllowance(rand.New(rand.NewSource(int64(len(text)))))
		if got, want := runInTime(t, other, in), Run(text, in); !reflect.DeepEqual(got, want) {
			t.Fatalf("%s\nshows something else than\n%s", other, text)
		}
	}
}
