package tests

import (
	"fmt"
	"reflect"
	"strings"
	"testing"

	"loop.example/mill/impl"
)

func TestTicksOfEachStep(t *testing.T) {
	for text, want := range map[string]int{
		"":                                   0,
		"{{}}":                               0,
		"let a":                              1,
		"const K = 1":                        0,
		"fn f() {}":                          2,
		"print()":                            2,
		"let a = 1 .. 2":                     2,
		"let a = 1 .. 2 .. 3":                3,
		"const K = 1 .. 2; let a = K":        1,
		"let a = 1 + 2 * 3 == 4":             1,
		"if true {}":                         1,
		"if false {} else {}":                1,
		"if false {} elif true {let a}":      3,
		"while false {}":                     2,
		"while true {break}":                 3,
		"let i = 0; while i < 2 {i = i + 1}": 2 + 3 + 2,
		"for i = 1, 3 {}":                    4,
		"for i = 1, 0 {}":                    1,
		"for i = 1, 3 {let a = i}":           7,
		"for k in {} {}":                     1,
		"for k in {1, 2} {}":                 3,
		"for k in read {}":                   1 + 3*2,
		"let f = fn() {}; f()":               3,
		"(fn() {return})()":                  3,
		"defer print()":                      2,
		"{defer print()}; defer print()":     4,
		"try {throw 1} catch e {let a}":      3,
		"let t = setkind({}, {.call = print}); t()":                         2 + 3,
		"let t = setkind({}, {.add = print}); t = t + 1":                    2 + 2,
		"let t = setkind({}, {.join = print}); t = t .. 1":                  2 + 3,
		"let t = setkind({}, {.index = print}); t = t.x":                    2 + 2,
		"let t = setkind({}, {.each = fn() {return read}}); for x in t {}":  2 + 1 + 2 + 3*2,
		"let k = task(fn() {yield()}); resume(k); resume(k)":                2 + 3 + 2 + 2,
		"let k = task(fn() {defer print(); yield()}); resume(k); giveup(k)": 2 + 6 + 2 + 1,
		"setkind({}, {.last = fn() {}}); collect()":                         2 + 2 + 1,
		"giveup(task(fn() {}))":                                             3,
		"return":                                                            1,
		"return print()":                                                    2,
	} {
		r := impl.Run(text, ample())
		if r.Code != 0 || r.Ticks != want {
			t.Errorf("%s: code %d, %d ticks and not %d", text, r.Code, r.Ticks, want)
		}
	}
}

// callOf is a program whose calls are open n deep, the text's own counted.
const callsDown = "fn f(n) {if n > 1 {return f(n - 1)}; return \"bottom\"}; try {print(f(%d))} catch e, r {print(e.code, #r)}"

func TestDepth(t *testing.T) {
	in := ample()
	for _, depth := range []int{1, 2, 3, 10, 60} {
		in.Depth = depth
		if depth > 1 {
			checkShown(t, in, []shows{{fmt.Sprintf(callsDown, depth-1), "bottom"}})
		}
		trace := len(strings.TrimSpace(strings.Repeat("f:1 ", depth-1) + "main:1"))
		checkShown(t, in, []shows{{fmt.Sprintf(callsDown, depth), fmt.Sprint("8 ", trace)}})
	}
	in.Depth = 3
	checkShown(t, in, []shows{
		{"fn f() {return 1}; let k = task(fn() {return f()}); print(resume(k))", "true 1"},
		{"fn f() {return 1}; fn g() {let k = task(fn() {return f()}); print(resume(k))}; g()", "false table fn:1"},
		{"let k = task(fn() {return resume(task(fn() {return resume(task(fn() {}))}))}); print(resume(k))", "true true false table "},
		{"let k = task(fn() {print(resume(task(fn() {let r; r = {resume(task(fn() {}))}; print(r[1], r[2].code, r[2].line, \"<\" .. r[3] .. \">\")})))}); resume(k)", "false 8 0 <>|true"},
		{"fn a() {print(1)}; fn b() {a()}; defer b(); try {let x = setkind({}, {.last = fn() {b()}}); x = nil; collect()} catch e {}", "1"},
		{"let k = task(fn() {defer (fn() {(fn() {})()})(); yield()}); resume(k); let a, b = giveup(k); print(a, b.code)", "false 8"},
		{"fn f() {return f}; print(f()()() == f)", "true"},
	})
	in.Depth = 1
	checkShown(t, in, []shows{
		{"fn f() {}; try {f()} catch e, r {print(e.code, r)}; print(1)", "8 main:1|1"},
		{"let k = task(fn() {}); let ok, e, r = resume(k); print(ok, e.code, e.line, r, status(k))", "false 8 0  done"},
		{"setkind({}, {.last = fn() {print(0)}}); print(collect())", "0"},
	})
	r := impl.Run("let k = task(fn() {})\nresume(k)", in)
	if want := "0 0 1 line \n0 0 2 line \n1 0 0 turn resume\n1 0 0 throw error 8\n0 0 0 turn error\n"; records(r) != want {
		t.Error(records(r))
	}
}

func TestCellsMade(t *testing.T) {
	for text, want := range map[string]int{
		"let a = {}": 1, "let a = {1, 2}": 3, "let a = {nil}": 1, "let a = {[1] = 1, 2}": 2, "let a = {}; a.x = 1; a.x = 2; a.x = nil; a.x = 3": 3,
		"let a = {...}": 3, "fn f() {}": 1, "let x, y; fn f() {return x, y, x}": 3, "let x; fn f() {return fn() {return x}}": 2,
		"let x; fn f() {return fn() {return x}}; f()": 4, "let k = task(fn() {})": 2, "fn f() {f()}": 2,
		"try {let x = 1 // 0} catch e {e.x = 1}": 1, "rawset({}, 1, 1)": 2, "setkind({}, {})": 2, "let s = \"a\" .. 1": 0, "print(1, 2, 3)": 0, "collect()": 0,
		"for i = 1, 5 {let t = {i}}": 10,
	} {
		in := ample()
		r := impl.Run(text, in)
		if r.Code != 0 || r.Made != want {
			t.Errorf("%s: code %d, made %d and not %d", text, r.Code, r.Made, want)
		}
		in.Cells = want
		if exact := impl.Run(text, in); !reflect.DeepEqual(exact, r) {
			t.Errorf("%s: with %d cells: %v", text, want, exact)
		}
		if in.Cells--; want > 0 {
			if less := impl.Run(text, in); less.Error != "error 9" && !strings.Contains(text, "try") || less.Made >= want {
				t.Errorf("%s: with %d cells: %v", text, want-1, less)
			}
		}
	}
	in := ample()
	in.Cells = 10
	checkShown(t, in, []shows{
		{"for i = 1, 12 {let ok = true; try {let t = {}} catch e {ok = e.code}; print(ok)}", "true|true|true|true|true|true|true|true|true|true|9|9"},
		{"for i = 1, 30 {let t = {}; if i % 10 == 0 {print(collect(), cells())}}", "1 1|left by error 9 at main:1"},
		{"for i = 1, 30 {{let t = {}}; if i % 10 == 0 {print(collect(), cells())}}", "0 0|0 0|0 0"},
		{"let t = {1, 2, 3, 4}; for i = 1, 3 {print(collect()); let u = {1, 2, 3, 4}}", "5|5|5"},
		{"let t = {1, 2, 3, 4}; print(collect()); let u = {1, 2, 3, 4}; try {let v = {}} catch e {print(e.code)}", "5|9"},
		{"let t = {1, 2, 3, 4}; print(cells()); let u = {1, 2, 3, 4}; try {t.x = 1} catch e {print(e.code, t.x)}", "5|9 nil"},
		{"let t = {1, 2, 3, 4, 5}; try {fn f() {return t}; t = f; fn g() {return f, t, g}} catch e {print(e.code, type(t))}", "9 fn"},
		{"let a, b, c, d, e, f, g, h, i; try {let x = fn() {return a, b, c, d, e, f, g, h, i}; print(1); x = {}} catch e {print(e.code)}", "1|9"},
		{"let a, b, c, d, e, f, g, h, i, j; try {let x = fn() {return a, b, c, d, e, f, g, h, i, j}; print(1)} catch e {print(e.code)}", "9"},
		{"try {print(#{1, 2, 3, 4, 5, 6, 7, 8, 9})} catch e {print(e.code)}", "9"},
		{"let x; try {x = {1, 2, 3, 4, 5, 6, 7, 8, 9, 10}} catch e {print(e.code, x, collect())}", "9 nil 3"},
	})
}

func TestLongStrings(t *testing.T) {
	ahead := "let s = \"" + strings.Repeat("x", 2000) + "\"; let r = s; "
	for statement, want := range map[string]int{
		"r = s .. s": 0, "r = s .. s .. \"\"": 0, "r = s .. s .. 1": 4, "r = s .. s .. s": 4, "r = (s .. s) .. nil": 1,
		"let t = setkind({}, {.join = fn() {return 1}}); r = s .. s .. t": 0,
		"r = s; r = r .. r; r = r .. -0.0":                                4,
	} {
		if got := codeOf(t, ample(), ahead, statement); got != want {
			t.Errorf("%s: %d", statement, got)
		}
	}
	in := ample()
	in.Args = []string{strings.Repeat("y", 4000)}
	text := "print(...)\ntry {print(..., nil)} catch e {print(e.code)}\nlet s = " + `"` + strings.Repeat("x", 1999) + `"` + "\nprint(s, s)\nprint(s, s, \"\")\ntry {print(s, s, 1)} catch e {print(e.code, #(s .. s .. 12))}"
	if got, want := shown(impl.Run(text, in)), in.Args[0]+"|4|"+strings.Repeat("x", 1999)+" "+strings.Repeat("x", 1999)+"|"+strings.Repeat("x", 1999)+" "+strings.Repeat("x", 1999)+" |4 4000"; got != want {
		t.Errorf("%d bytes", len(got))
	}
}

func TestFullTables(t *testing.T) {
	checkShown(t, ample(), []shows{
		{"let t = {}; for i = 1, 500 {t[i] = i}; try {t.x = 1} catch e {print(e.code, #t, t.x)}; t[7] = nil; t.x = 1; try {t[7] = 1} catch e {print(e.code)}", "4 500 nil|4"},
		{"fn r(...) {return ...}; let t = {}; for i = 1, 250 {t[i] = i}", ""},
	})
	// Of the 600 values that a literal may have at most 500 find room.
	var fill strings.Builder
	fill.WriteString("fn f(n, ...) {if n == 0 {return ...}; return f(n - 1, n, ...)}\nfn g() {return f(45)}\n")
	checkShown(t, ample(), []shows{{fill.String() + "print(#{g()}, #{[46] = 1, g()})", "45 46"}})
	in := ample()
	in.Args = make([]string, 200)
	checkShown(t, in, []shows{
		{"fn n(...) {return #{...}}; print(n(...), n(1, ...))", "200 201"},
		{"let t = {}; for i = 250, 498 {t[i + 2] = i}; fn f(...) {return ..., 1}; print(#t, #{...})", "0 200"},
	})
}

// many is a text ahead of which f(n) gives n values.
const many = "let left; fn grow(...) {if left >= 10 {left = left - 10; return grow(1, 2, 3, 4, 5, 6, 7, 8, 9, 10, ...)}; if left > 0 {left = left - 1; return grow(1, ...)}; return ...}\nfn f(n) {left = n; return grow()}\n"

func TestLongLists(t *testing.T) {
	for statement, want := range map[string]int{
		"let a, b = f(250)": 0, "let a = f(250)": 0,
		"let a, b = 1, f(249)": 0, "let a, b = 1, f(250)": 4, "let a = 1, f(250)": 4, "let a = 1, f(249)": 0,
		"t.x, t.y = f(250)": 0, "t.x, t.y = 1, f(250)": 4, "t.x = 1, f(250)": 4, "t.x = f(250)": 0,
		"g(f(250))": 0, "g(1, f(249))": 0, "g(1, f(250))": 4, "g(1, (f(250)))": 0, "g(f(250), 1)": 0, "defer g(1, f(250))": 4, "defer g(1, f(249))": 0,
		"return f(250)": 0, "return 1, f(249)": 0, "return 1, f(250)": 4, "h(f(249))": 0,
		"let a = {f(250)}": 0, "let a = {1, f(250)}": 0, "let a = {1, 2, 3, f(250)}": 0,
		"for i = 1, 2, f(250) {}": 0,
		"c(f(250))":               0, "d(f(249))": 0, "let a = resume(k)": 0, "let a = {resume(k)}": 0, "let a, b = resume(k)": 4, "g(resume(k))": 4, "return resume(k)": 4, "resume(k); g(resume(k))": 0,
	} {
		in := ample()
		ahead := many + "fn g() {}; fn h(...) {return 1, ...}; let t, k = {}, task(fn() {yield(f(250)); return f(249)}); let c, d = setkind({}, {.call = fn(...) {}}), setkind({}, {.call = fn(...) {return ...}})"
		if got := codeOf(t, in, ahead, statement); got != want {
			t.Errorf("%s: %d", statement, got)
		}
	}
	checkShown(t, ample(), []shows{
		{many + "print(#{f(250)}, #{1, 2, f(250)}, (fn(...) {return #{...}})(f(250)))", "250 252 250"},
		{many + "fn h(...) {\nreturn 1, ...}; try {h(f(250))} catch e {print(e.code, e.line)}", "4 4"},
		{many + "let d = setkind({}, {.call = fn(...) {\nreturn ...}}); try {d(f(250))} catch e {print(e.code, e.line)}", "4 4"},
		{many + "let k = task(fn() {yield(f(250))}); print(#{resume(k)})", "251"},
		{many + "let c = setkind({}, {.call = fn(...) {return #{...}}}); print(c(f(250)))", "251"},
	})
}

func TestMaxTasks(t *testing.T) {
	checkShown(t, ample(), []shows{
		{"fn f() {}; let t; for i = 1, 100 {t = task(f)}; try {task(f)} catch e {print(e.code)}; try {task(1)} catch e {print(e.code)}; print(resume(t))", "10|12|true"},
		{"fn f() {}; for i = 1, 100 {task(f)}; collect(); try {task(f)} catch e {print(e.code)}", "10"},
	})
	in := ample()
	in.Cells = 1
	if got := codeOf(t, in, "fn f() {}", "task(f)"); got != 9 {
		t.Error(got)
	}
	in.Cells = 101
	if got := codeOf(t, in, "fn f() {}; for i = 1, 100 {task(f)}", "task(f)"); got != 10 {
		t.Error(got)
	}
}
