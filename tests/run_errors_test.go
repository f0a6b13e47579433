package tests

import (
	"strconv"
	"strings"
	"testing"

	"loop.example/mill/impl"
)

// codeOf is the code, and the line, of the error that a statement throws; 0 when it throws none.
func codeOf(t *testing.T, in impl.Input, ahead, statement string) int {
	t.Helper()
	text := ahead + "\ntry {\n" + statement + "\n} catch e {print(rawget(e, \"code\"), rawget(e, \"line\"))}"
	if checked := impl.Check(text); checked.Code != 0 {
		t.Errorf("%s\nis no text: %v", text, checked)
		return -1
	}
	got := shown(impl.Run(text, in))
	if got == "" || strings.HasPrefix(got, "returned") {
		return 0
	}
	code, line, _ := strings.Cut(got, " ")
	if line != strconv.Itoa(strings.Count(ahead, "\n")+3) {
		t.Errorf("%s\nshows %s", text, got)
	}
	number, err := strconv.Atoi(code)
	if err != nil {
		t.Errorf("%s\nshows %s", text, got)
	}
	return number
}

func TestEveryCode(t *testing.T) {
	const things = "let t, f, k, nan = {}, fn() {}, task(fn() {}), 0 / 0; let k2 = task(fn() {yield()}); resume(k2); let gone = task(f); resume(gone)"
	for statement, want := range map[string]int{
		"let x = {} + 1": 1, "let x = -nil": 1, "let x = \"1\" + 1": 1, "let x = 1.0 & 1": 1, "let x = #nil": 1, "let x = 1 .. nil": 1, "let x = true .. \"\"": 1,
		"let x = nil < 1": 1, "let x = t <= t": 1, "for i = \"1\", 2 {}": 1, "for i = 1, nil {}": 1, "for i = 1, 2, \"1\" {}": 1, "for x in \"abc\" {}": 1, "for x in nil {}": 1, "for x in k {}": 1,
		"let x = 1 // 0": 2, "let x = 1 % 0": 2, "let x = 1.0 // 0": 0, "let x = 1 % 0.0": 0, "let x = 1 / 0": 0,
		"let x = 1 << -1": 3, "let x = 1 >> -1": 3, "let x = 1 << 64": 0,
		"t[nil] = 1": 5, "t[nan] = 1": 5, "let x = {[nil] = 1}": 5, "let x = {[nil] = nil}": 5, "let x = {[nan] = 1}": 5, "t[nil] = nil": 5, "let x = t[nil]": 0, "rawset(t)": 5, "rawset(t, nan, nil)": 5,
		"t()": 6, "(nil)()": 6, "(1)()": 6, "k()": 6, "(\"f\")()": 6, "defer t()": 6,
		"let x = (nil).x": 7, "let x = (\"s\")[1]": 7, "(1)[1] = 1": 7, "f.x = 1": 7, "let x = print.x": 7, "(nil)[nil] = 1": 7,
		"yield()": 10, "resume(gone)": 10, "giveup(gone)": 10, "resume(task(1))": 12,
		"setkind()": 12, "setkind(1)": 12, "setkind(t, 1)": 12, "setkind(t, f)": 12, "setkind(1, {})": 12, "setkind(t, nil)": 0, "setkind(t)": 0, "setkind(t, {})": 0,
		"rawget()": 12, "rawget(1, 1)": 12, "rawget(f)": 12, "rawget(t)": 0, "rawset()": 12, "rawset(nil, nil, 1)": 12, "rawset(t, 1, 1)": 0,
		"task()": 12, "task(print)": 12, "task(t)": 12, "task(k)": 12, "task(setkind({}, {.call = f}))": 12, "task(f)": 0,
		"resume()": 12, "resume(f)": 12, "resume(t)": 12, "resume(k)": 0, "resume(k2)": 0,
		"status()": 12, "status(f)": 12, "status(k)": 0, "giveup()": 12, "giveup(f)": 12, "giveup(k)": 0, "giveup(k2)": 0,
		"for i = 1, 2, 0 {}": 14, "for i = 1, 2, 0.0 {}": 14, "for i = 1.0, 2, 0 {}": 14, "for i = 1, 2, -0.0 {}": 14, "for i = 1, 2, nan {}": 14, "for i = nan, nan, 1 {}": 0,
		"print()": 0, "read()": 0, "type()": 0, "text()": 0, "kind()": 0, "collect()": 0, "cells()": 0, "read(1)": 0, "collect(1, nil)": 0, "cells({})": 0,
		"for i = nil, 2, 0 {}": 1, "for i = 1, 2, {} {}": 1,
	} {
		if got := codeOf(t, ample(), things, statement); got != want {
			t.Errorf("%s: %d", statement, got)
		}
	}
}

func TestBuiltinsGiveValues(t *testing.T) {
	const things = "fn n(...) {return #{...}, ...}; let t, k = {}, task(fn(...) {return ...});"
	checkShown(t, ample(), []shows{
		{things + "print(n(print(1), nil))", "1|0 nil nil"},
		{things + "print(n(print()))", "|0"},
		{things + "print(n(read())); read(); print(n(read()))", "1 one|0 nil"},
		{things + "print(n(type(1, 2)))", "1 int"},
		{things + "print(n(kind(1)))", "0 nil"},
		{things + "print(n(setkind(t, nil)))", "1 table"},
		{things + "print(n(rawget(t, 1)))", "0 nil"},
		{things + "print(n(rawset(t, 1, 2)))", "0"},
		{things + "print(n(task(n)))", "1 task"},
		{things + "print(n(resume(k, 5, nil, 6)))", "2 true 5 nil 6"},
		{things + "print(n(giveup(k)))", "1 true"},
		{things + "print(n(status(k)))", "1 new"},
		{things + "print(n(collect(k)), n(cells(k)))", "1 1 4"},
	})
}

// Errors of one operation are looked for in an order, that of the cells last.
func TestOrderOfErrors(t *testing.T) {
	in := ample()
	in.Cells = 0
	const things = "fn f() {}"
	for statement, want := range map[string]int{
		"let t = {}": 9, "let g = fn() {}": 9, "let x = {[nil] = 1}": 9,
	} {
		if got := codeOf(t, in, "", statement); got != want {
			t.Errorf("%s: %d", statement, got)
		}
	}
	in.Cells = 1
	for statement, want := range map[string]int{
		"let t = {}": 9, "task(1)": 12, "task(f)": 9, "let x = f .. 1": 1,
	} {
		if got := codeOf(t, in, things, statement); got != want {
			t.Errorf("%s: %d", statement, got)
		}
	}
	for statement, want := range map[string]int{
		"t[nil] = 1": 5, "t.x = 1": 9, "t.x = nil": 0, "t.x = t.x": 0, "rawset(t, nil, 1)": 5, "rawset(t, 1, 1)": 9, "(nil).x = {}": 9, "(nil).x = 1": 7,
	} {
		if got := codeOf(t, in, "let t = {}", statement); got != want {
			t.Errorf("%s: %d", statement, got)
		}
	}
	in.Cells = 601
	const full = "let t = {}; for i = 1, 500 {t[i] = i}; let u = {}"
	for statement, want := range map[string]int{
		"t[501] = 1": 4, "t[501] = nil": 0, "t[500] = 1": 0, "t[nil] = 1": 5, "rawset(t, 501, 1)": 4, "rawset(t, 501, nil)": 0,
	} {
		if got := codeOf(t, in, full, statement); got != want {
			t.Errorf("%s: %d", statement, got)
		}
	}
	in.Cells = 502
	for statement, want := range map[string]int{"t[501] = 1": 4, "u[1] = 1": 9, "t[500] = 1": 0} {
		if got := codeOf(t, in, full, statement); got != want {
			t.Errorf("%s: %d", statement, got)
		}
	}
	checkShown(t, ample(), []shows{
		{"try {for i = print(1), print(2), print(3) {}} catch e {print(e.code)}", "1|2|3|1"},
		{"try {let x = {[print(1)] = print(2), [print(3)] = 1}} catch e {print(e.code)}", "1|2|5"},
		{"try {(nil)[print(1)] = print(2)} catch e {print(e.code)}", "1|2|7"},
		{"try {(nil)(print(1))} catch e {print(e.code)}", "1|6"},
		{"try {let x = nil + print(1)} catch e {print(e.code)}", "1|1"},
		{"try {let x = (nil)[print(1)]} catch e {print(e.code)}", "1|7"},
		{"let t = {}; try {t.x, t[nil], t.y = 1, 2, 3} catch e {print(e.code, t.x, t.y)}", "5 1 nil"},
	})
}

func TestWhatAnErrorIs(t *testing.T) {
	checkShown(t, ample(), []shows{
		{"try {\nlet x = nil + 1} catch e, r {for k, v in e {print(k, v)}; print(r, kind(e))}", "code 1|line 2|main:2 nil"},
		{"try {throw \"s\"} catch e, r {print(e, r)}", "s main:1"},
		{"try {throw nil} catch e, r {print(e, r)}", "nil main:1"},
		{"fn f() {\nthrow 1}\nfn g() {\ntry {\nf()} catch e {\nthrow e}}\ntry {\ng()} catch e, r {print(e, r)}", "1 g:6 main:8"},
		{"fn f() {\nthrow 1}\ntry {\n(fn() {\nf()})()} catch e, r {print(e, r)}", "1 f:2 fn:5 main:4"},
		{"let t = setkind({}, {.add = fn() {\nthrow 1}})\ntry {\nlet x = 1 +\n\n\nt} catch e, r {print(r)}", "fn:2 main:4"},
		{"try {try {throw 1} catch e {throw e + 1}} catch e, r {print(e, r)}", "2 main:1"},
		{"try {print(1)} catch e {print(2)}; print(3)", "1|3"},
		{"try {throw 1} catch _, _ {print(2)}", "2"},
		{"let e = 5; try {throw 1} catch e {e = e + 1; print(e)}; print(e)", "2|5"},
		{"while true {try {break} catch e {}}; print(1)", "1"},
		{"fn f() {try {return 1} catch e {return 2}}; print(f())", "1"},
		{"let i = 0; while i < 2 {i = i + 1; try {throw i} catch e {next}; print(0)}; print(i)", "2"},
	})
}

// The line is that of the statement at hand, also when another one has ended since it began.
func TestLineAtHand(t *testing.T) {
	checkShown(t, ample(), []shows{
		{"let i = 0\ntry {\nwhile i + 1 < 3 {\ni = i + 1\nif i == 2 {\ni = nil\n}\n}\n} catch e, r {print(e.line, r)}", "3 main:3"},
		{"let i = 0\ntry {\nfor x in fn() {\ni = i + 1\nif i == 2 {\nthrow 1\n}\nreturn i} {\nlet x = 1\n}\n} catch e, r {print(e, r)}", "1 fn:6 main:3"},
		{"try {\nfor i = 1,\n2,\nnil + 1 {\n}\n} catch e {print(e.line)}", "2"},
		{"try {\nif false {\n} elif\nnil + 1 {\n}\n} catch e {print(e.line)}", "3"},
		{"try {\nif true {\nlet a = 1\n}\nlet b = nil + 1} catch e {print(e.line)}", "5"},
		{"fn f() {\nlet a = 1\nlet b = 2\n}\ntry {\nlet x = f() +\n1} catch e {print(e.line)}", "6"},
		{"try {\n{\ndefer type()\n}\nlet y = nil + 1\n} catch e {print(e.line)}", "5"},
		{"fn f() {\nthrow 1\n}\ntry {\n{\ndefer\nf()\nlet x = 1\n}\n} catch e, r {print(r)}", "f:2 main:6"},
		{"fn f() {\nthrow 1\n}\nfn g() {\ndefer f()\nreturn 1\n}\ntry {\ng()\n} catch e, r {print(r)}", "f:2 g:5 main:9"},
		{"try {\ntry {\nthrow 1\n} catch e {\nlet x = 1\n}\nlet y = nil + 1\n} catch e {print(e.line)}", "7"},
		{"let k = task(fn() {\nyield()\nlet x = nil + 1\n})\nresume(k)\nlet ok, e, r = resume(k)\nprint(ok, e.line, r)", "false 3 fn:3"},
		{"print(\n\n1)\nprint\n\n(2)", "1|2"},
	})
	r := impl.Run("print(\n\n1)\nlet x = 1; print(\n2)", ample())
	if records(r) != "0 0 1 line \n0 0 1 print 1\n0 0 4 line \n0 0 4 line \n0 0 4 print 2\n" {
		t.Error(records(r))
	}
}

// An error is told by what its value is at that moment.
func TestHowErrorsAreTold(t *testing.T) {
	r := impl.Run("let t = {.code = 4}\nfn f() {t.code = 5}\ntry {\ndefer f()\nthrow t\n} catch e {}\nt.code = 1.5\nthrow t", ample())
	var told []string
	for _, rec := range r.Recs {
		if rec.Kind == impl.RecThrow || rec.Kind == impl.RecCatch {
			told = append(told, strconv.Itoa(rec.Kind)+" "+strconv.Itoa(rec.Line)+" "+rec.Text)
		}
	}
	if got := strings.Join(told, "|"); got != "4 5 error 4|5 3 error 5|4 8 table" || r.Error != "table" {
		t.Error(got, r.Error)
	}
}
