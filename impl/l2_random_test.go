package impl

import (
	"math/rand"
	"reflect"
	"runtime"
	"strconv"
	"strings"
	"testing"
	"time"
)

// writer makes up programs that mostly do what they are meant to: it knows of what sort its variables are.
type writer struct {
	*rand.Rand
	vars  []named // those in scope
	fuel  int
	loops int
	fns   int
	rest  bool
}

type named struct {
	name string
	sort byte // n number or string, t table, f fn, k task, x any
}

func (w *writer) chance(percent int) bool { return w.Intn(100) < percent }

func (w *writer) any(list ...string) string { return list[w.Intn(len(list))] }

func (w *writer) sort() byte { return "nnttfkx"[w.Intn(7)] }

func (w *writer) name() string { return w.any("a", "b", "c", "d", "e", "f", "g", "h") }

// known is a variable of a sort, if there is one.
func (w *writer) known(sort byte) (string, bool) {
	for range 4 {
		if len(w.vars) == 0 {
			return "", false
		}
		at := w.Intn(len(w.vars))
		v := w.vars[at]
		hidden := false
		for _, later := range w.vars[at+1:] {
			hidden = hidden || later.name == v.name
		}
		if !hidden && (v.sort == sort || sort == 'x') {
			return v.name, true
		}
	}
	return "", false
}

func (w *writer) block(vars ...named) string {
	mark := len(w.vars)
	w.vars = append(w.vars, vars...)
	var b strings.Builder
	b.WriteString("{\n")
	for range w.Intn(5) {
		b.WriteString(w.stat() + "\n")
	}
	w.vars = w.vars[:mark]
	return b.String() + "}"
}

func (w *writer) loopBlock(vars ...named) string {
	w.loops++
	defer func() { w.loops-- }()
	return w.block(vars...)
}

func (w *writer) stat() string {
	w.fuel--
	if w.fuel < 0 {
		return w.any("print(cells())", "collect()")
	}
	switch w.Intn(28) {
	case 0, 1, 2, 3:
		return w.let()
	case 4, 5:
		return w.fnStat()
	case 6, 7, 8:
		return w.set()
	case 9:
		text := "if " + w.expr('x') + " " + w.block()
		if w.chance(30) {
			text += " elif " + w.expr('x') + " " + w.block()
		}
		if w.chance(30) {
			text += " else " + w.block()
		}
		return text
	case 10:
		return "while " + w.any(w.expr('x'), "#g < "+strconv.Itoa(w.Intn(6))) + " " + w.loopBlock()
	case 11:
		v := named{w.name(), 'n'}
		return "for " + v.name + " = 1, " + w.any("2", "3", "4.5, 2") + " " + w.loopBlock(v)
	case 12:
		k, v := named{w.name(), 'x'}, named{w.name(), 'x'}
		over := w.expr(w.any("t", "t", "f")[0])
		return "for " + k.name + ", " + v.name + " in " + over + " " + w.loopBlock(k, v)
	case 13:
		if w.loops > 0 {
			return w.any("break", "next")
		}
		return "print(" + w.exprs(2) + ")"
	case 14:
		return "return " + w.exprs(2)
	case 15, 16, 17:
		e, r := named{w.name(), 'x'}, named{w.name(), 'n'}
		return "try " + w.block() + " catch " + e.name + ", " + r.name + " " + w.block(e, r)
	case 18:
		return "throw " + w.expr(w.any("x", "t")[0])
	case 19, 20, 21:
		return "defer " + w.call()
	case 22:
		return w.block()
	}
	return w.call()
}

func (w *writer) let() string {
	sort := w.sort()
	v, other := named{w.name(), sort}, named{w.name(), 'x'}
	if w.chance(80) {
		text := "let " + v.name + " = " + w.expr(sort)
		w.vars = append(w.vars, v)
		return text
	}
	text := "let " + v.name + ", " + other.name
	if w.chance(80) {
		text += " = " + w.expr(sort) + ", " + w.exprs(2)
	}
	w.vars = append(w.vars, v, other)
	return text
}

func (w *writer) fnStat() string {
	v := named{w.name(), 'f'}
	w.vars = append(w.vars, v)
	return "fn " + v.name + w.body()
}

func (w *writer) body() string {
	loops, rest := w.loops, w.rest
	defer func() { w.loops, w.rest = loops, rest }()
	w.loops, w.rest = 0, w.chance(30)
	params := []named{{w.name(), 'x'}, {w.name(), w.sort()}}[:w.Intn(3)]
	var names []string
	for _, p := range params {
		names = append(names, p.name)
	}
	if w.rest {
		names = append(names, "...")
	}
	return "(" + strings.Join(names, ", ") + ") " + w.block(params...)
}

func (w *writer) target() string {
	if name, ok := w.known(w.sort()); ok && w.chance(50) {
		return name
	}
	name, ok := w.known('t')
	if !ok {
		name = "g"
	}
	if w.chance(30) {
		return name + "[" + w.expr('x') + "]"
	}
	return name + w.any(".x", ".y", "[#g + 1]")
}

func (w *writer) set() string {
	if w.chance(25) {
		return w.target() + ", " + w.target() + " = " + w.exprs(3)
	}
	return w.target() + " = " + w.expr(w.sort())
}

func (w *writer) exprs(most int) string {
	var list []string
	for range 1 + w.Intn(most) {
		list = append(list, w.expr('x'))
	}
	return strings.Join(list, ", ")
}

func (w *writer) args(most int) string {
	if w.chance(40) {
		return ""
	}
	return w.exprs(most)
}

func (w *writer) call() string {
	w.fuel--
	if w.fuel < 0 {
		return w.any("show()", "collect()", "print(cells())", "yield()", "giveup(T)", "resume(T)")
	}
	switch w.Intn(16) {
	case 0, 1:
		return "print(" + w.exprs(3) + ")"
	case 2, 3:
		return w.any("show(", "show(", "lose(") + w.exprs(1) + ")"
	case 4:
		return "collect()"
	case 5, 6:
		return "resume(" + w.expr('k') + w.any("", ", {}", ", 1, T") + ")"
	case 7, 8:
		return "yield(" + w.args(2) + ")"
	case 9, 10:
		return "giveup(" + w.expr('k') + ")"
	case 11:
		return w.any("rawset(", "rawget(", "setkind(") + w.expr('t') + ", " + w.exprs(2) + ")"
	case 12:
		return w.any("status(", "text(", "type(", "kind(", "task(") + w.expr(w.sort()) + ")"
	}
	if name, ok := w.known('f'); ok {
		return name + "(" + w.args(2) + ")"
	}
	return "(" + w.expr(w.any("f", "f", "t", "x")[0]) + ")(" + w.args(2) + ")"
}

func (w *writer) expr(sort byte) string {
	w.fuel--
	if name, ok := w.known(sort); ok && w.chance(45) {
		return name
	}
	if w.fuel < 0 {
		return w.any("1", "2", "g", "{}", "nil", "show", "\"s\"", "T")
	}
	switch sort {
	case 'n':
		return w.number()
	case 't':
		return w.table()
	case 'f':
		if w.chance(70) {
			return "fn" + w.body()
		}
		return w.any("show", "lose", "read", "yield", "collect")
	case 'k':
		if w.chance(60) {
			return "task(fn" + w.body() + ")"
		}
		return w.any("T", "task(worker)", "begun(worker)", "begun(worker)")
	}
	switch w.Intn(12) {
	case 0:
		return w.any("nil", "true", "false", "1.5", "-1", "\"s\"", "{}")
	case 1:
		return "(" + w.expr('x') + w.any(" and ", " or ") + w.expr('x') + ")"
	case 2:
		return "(" + w.expr('t') + w.any(" + ", " .. ", " == ", " ~= ", " < ", " >= ", " // ") + w.expr('x') + ")"
	case 3:
		return w.any("#", "-", "not ", "~") + w.expr('t')
	case 4:
		if w.rest {
			return "..."
		}
	case 5, 6:
		return w.call()
	case 7:
		if name, ok := w.known('t'); ok {
			return name + w.any(".x", ".y", "[1]", "[2]")
		}
	case 8:
		return "(" + w.call() + ")"
	}
	return w.expr(w.sort())
}

func (w *writer) number() string {
	switch w.Intn(8) {
	case 0:
		return w.any("0", "1.5", "\"s\"", "7", "\"weak\"")
	case 1:
		return "(" + w.expr('n') + w.any(" + ", " - ", " .. ", " < ", " // ", " == ") + w.expr('n') + ")"
	case 2:
		return "cells()"
	case 3:
		return "#" + w.expr('t')
	case 4:
		return "collect()"
	}
	return strconv.Itoa(w.Intn(4))
}

func (w *writer) table() string {
	switch w.Intn(9) {
	case 0, 1:
		return "{}"
	case 2:
		return "{" + w.exprs(3) + "}"
	case 3:
		return "{.x = " + w.expr('x') + ", [" + w.expr('x') + "] = " + w.expr('x') + "}"
	case 4, 5, 6:
		return "setkind(" + w.expr('t') + ", " + w.kind() + ")"
	case 7:
		return "setkind({[{}] = " + w.expr('x') + ", [" + w.expr('t') + "] = " + w.expr('t') + "}, {.weak = " + w.any("\"k\"", "\"v\"", "\"kv\"") + "})"
	}
	return "{" + w.expr('x') + ", " + w.call() + "}"
}

func (w *writer) kind() string {
	var entries []string
	for range 1 + w.Intn(3) {
		name := w.any("last", "last", "last", "weak", "index", "setindex", "call", "each", "eq", "lt", "le", "add", "join", "len", "neg", "idiv")
		switch name {
		case "weak":
			entries = append(entries, ".weak = "+w.any("\"k\"", "\"v\"", "\"kv\""))
		case "index", "setindex", "call":
			entries = append(entries, "."+name+" = "+w.expr(w.any("f", "t")[0]))
		default:
			entries = append(entries, "."+name+" = "+w.expr('f'))
		}
	}
	return "{" + strings.Join(entries, ", ") + "}"
}

const prelude = `let g, f = {}
let T = nil
fn show(...) {print(cells(), ...)}
fn lose(x) {
g[#g + 1] = x
collect()
g[#g] = nil
}
fn worker(a, ...) {
let own = {}
defer show(a)
try {
let b = yield({a}, ...)
defer yield(b)
{
defer print(f, yield({b}))
let f = {{}}
defer show()
if b {
throw {b}
} else {
return {b, own}
}
}
} catch e {
for i = 1, 2 {
defer resume(T)
yield(e, ({}) == yield(i))
}
return yield(e), {}
}
}
fn begun(f) {
let made = task(f)
resume(made, g, 1)
if #g > 2 {
resume(made, {})
}
return made
}
T = begun(worker)
`

// anyProgram is a program of some statements, most of them with their errors caught.
func anyProgram(seed int64) string {
	w := &writer{Rand: rand.New(rand.NewSource(seed)), fuel: 20 + int(seed%120), rest: true}
	w.vars = []named{{"g", 't'}, {"T", 'k'}, {"show", 'f'}, {"lose", 'f'}, {"worker", 'f'}, {"begun", 'f'}}
	var b strings.Builder
	b.WriteString(prelude)
	for w.fuel > 0 {
		if w.chance(60) {
			b.WriteString("try " + w.block() + " catch e, r {\nprint(e, type(e) == \"table\" and rawget(e, \"code\"), r)\n}\n")
		} else {
			b.WriteString(w.stat() + "\n")
		}
	}
	return b.String()
}

func anyAllowance(r *rand.Rand) Input {
	return Input{
		Args:  []string{"p", "q"},
		Lines: []string{"one", "two"},
		Ticks: []int{r.Intn(300), 400, 2000}[r.Intn(3)],
		Depth: 1 + r.Intn(15),
		Cells: []int{r.Intn(60), 200, 2000}[r.Intn(3)],
	}
}

// runInTime is Run, but a program that never ends is told by its text.
func runInTime(t *testing.T, text string, in Input) Report {
	done := make(chan Report, 1)
	go func() { done <- Run(text, in) }()
	select {
	case r := <-done:
		return r
	case <-time.After(20 * time.Second):
		t.Fatalf("does not end: %v\n%s", in, text)
		return Report{}
	}
}

func TestRunIsThatOfTheSecondMachine(t *testing.T) {
	codes := map[int]int{}
	kinds := map[Rec]int{}
	before := runtime.NumGoroutine()
	for seed := int64(1); seed <= 4000; seed++ {
		text := anyProgram(seed)
		checked, u := unitOf(text)
		if checked.Code == codeLarge {
			continue
		}
		if checked.Code != 0 {
			t.Fatalf("%v\n%s", checked, text)
		}
		in := anyAllowance(rand.New(rand.NewSource(seed)))
		got := runInTime(t, text, in)
		want, _ := run2(u, in)
		if !reflect.DeepEqual(got, want) {
			for i := 0; i < len(got.Recs) && i < len(want.Recs); i++ {
				if got.Recs[i] != want.Recs[i] {
					t.Logf("record %d: %v, not %v", i, got.Recs[i], want.Recs[i])
					break
				}
			}
			got.Recs, want.Recs = nil, nil
			t.Fatalf("seed %d %v\n%v\n%v\n%s", seed, in, got, want, text)
		}
		codes[got.Code]++
		for _, r := range got.Recs {
			if r.Kind == RecPrint {
				r.Text = ""
			}
			kinds[Rec{Kind: r.Kind, Text: r.Text}]++
		}
	}
	t.Log(codes, kinds)
	for i := 0; runtime.NumGoroutine() > before && i < 100; i++ {
		time.Sleep(10 * time.Millisecond)
	}
	if n := runtime.NumGoroutine(); n > before {
		t.Errorf("%d goroutines are left", n-before)
	}
}
