package tests

import (
	"fmt"
	"reflect"
	"strings"
	"testing"

	"loop.example/mill/impl"
)

func ample() impl.Input {
	return impl.Input{Args: []string{"p", "q"}, Lines: []string{"one", "two"}, Ticks: impl.MaxTicks, Depth: impl.MaxDepth, Cells: impl.MaxCells}
}

// shown is what a run prints, and how it ends if it does not simply end.
func shown(r impl.Report) string {
	var parts []string
	for _, rec := range r.Recs {
		if rec.Kind == impl.RecPrint {
			parts = append(parts, rec.Text)
		}
	}
	switch r.Code {
	case 0:
		if len(r.Vals) > 0 {
			parts = append(parts, "returned "+strings.Join(r.Vals, " "))
		}
	case 1:
		parts = append(parts, "left by "+r.Error+" at "+r.Trace)
	default:
		parts = append(parts, fmt.Sprint("code ", r.Code))
	}
	return strings.Join(parts, "|")
}

// records writes down all records, a line for each.
func records(r impl.Report) string {
	kinds := []string{"", "line", "call", "back", "throw", "catch", "print", "turn", "last"}
	var b strings.Builder
	for _, rec := range r.Recs {
		fmt.Fprintf(&b, "%d %d %d %s %s\n", rec.Task, rec.Fn, rec.Line, kinds[rec.Kind], rec.Text)
	}
	return b.String()
}

type shows struct{ text, want string }

func checkShown(t *testing.T, in impl.Input, cases []shows) {
	t.Helper()
	for _, c := range cases {
		if checked := impl.Check(c.text); checked.Code != 0 {
			t.Errorf("%s\nis no text: %v", c.text, checked)
			continue
		}
		if got := shown(impl.Run(c.text, in)); got != c.want {
			t.Errorf("%s\nshows   %s\nand not %s", c.text, got, c.want)
		}
	}
}

func TestInputOk(t *testing.T) {
	long := strings.Repeat("x", 4000)
	full := make([]string, impl.MaxInput)
	for i := range full {
		full[i] = long
	}
	ok := impl.Input{Ticks: 0, Depth: 1, Cells: 0}
	for i, c := range []struct {
		change func(in *impl.Input)
		want   bool
	}{
		{func(in *impl.Input) {}, true},
		{func(in *impl.Input) { in.Args = full }, true},
		{func(in *impl.Input) { in.Lines = full }, true},
		{func(in *impl.Input) { in.Args, in.Lines = full, full }, true},
		{func(in *impl.Input) { in.Args = append(full[:200:200], "") }, false},
		{func(in *impl.Input) { in.Lines = append(full[:200:200], "") }, false},
		{func(in *impl.Input) { in.Args = []string{"a", long + "x"} }, false},
		{func(in *impl.Input) { in.Lines = []string{long + "x"} }, false},
		{func(in *impl.Input) { in.Ticks = impl.MaxTicks }, true},
		{func(in *impl.Input) { in.Ticks = impl.MaxTicks + 1 }, false},
		{func(in *impl.Input) { in.Ticks = -1 }, false},
		{func(in *impl.Input) { in.Depth = 0 }, false},
		{func(in *impl.Input) { in.Depth = -1 }, false},
		{func(in *impl.Input) { in.Depth = impl.MaxDepth }, true},
		{func(in *impl.Input) { in.Depth = impl.MaxDepth + 1 }, false},
		{func(in *impl.Input) { in.Cells = impl.MaxCells }, true},
		{func(in *impl.Input) { in.Cells = impl.MaxCells + 1 }, false},
		{func(in *impl.Input) { in.Cells = -1 }, false},
	} {
		in := ok
		c.change(&in)
		if impl.InputOk(in) != c.want {
			t.Errorf("input %d: %v", i, !c.want)
		}
		r := impl.Run("", in)
		if c.want && !reflect.DeepEqual(r, impl.Report{}) || !c.want && !reflect.DeepEqual(r, impl.Report{Code: 3}) {
			t.Errorf("input %d: %v", i, r)
		}
	}
	if impl.InputOk(impl.Input{}) {
		t.Error("the zero value has no depth")
	}
}

func TestTextsThatCannotRun(t *testing.T) {
	for _, text := range []string{
		"let x ==", "\x00", "print(y)", "print = 1", "break", "fn f() {return ...}", "const K = 1 // 0",
		"for a, b, c, d, e in print {}", strings.Repeat(" ", impl.MaxText+1), "print(1); print(",
	} {
		if got := impl.Run(text, ample()); !reflect.DeepEqual(got, impl.Report{Code: 3}) {
			t.Errorf("%.30q: %v", text, got)
		}
	}
}

func TestRecordsOfARun(t *testing.T) {
	const text = `fn g() {
	while true {
		break
	}
	return {} .. 1
}
fn f(a, ...) {
	defer print("off", a)
	if a == 1 {
		return ..., a
	} elif a == 2 {
		throw "two"
	}
	yield(a)
	return g()
}
let t = task(f)
print(f(1, 5, 6))
try {
	f(2)
} catch e, trace {
	print(e, trace)
}
print(resume(t, 3))
print(resume(t))
let u = task(f)
resume(u)
print(giveup(u))
setkind({}, {.last = fn(x) {
	throw x
}})
print(collect())
for k, v in {7} {
	print(k, v)
}
return 1, nil, "x"`
	const want = `0 0 1 line 
0 0 1 line 
0 0 7 line 
0 0 7 line 
0 0 17 line 
0 0 18 line 
0 2 7 call f
0 2 8 line 
0 2 9 line 
0 2 10 line 
0 2 8 print off 1
0 2 0 back 
0 0 18 print 5 1
0 0 19 line 
0 0 20 line 
0 2 7 call f
0 2 8 line 
0 2 9 line 
0 2 11 line 
0 2 12 line 
0 2 12 throw two
0 2 8 print off 2
0 2 0 back error
0 0 19 catch two
0 0 22 line 
0 0 22 print two f:12 main:20
0 0 24 line 
1 0 0 turn resume
1 2 7 call f
1 2 8 line 
1 2 9 line 
1 2 11 line 
1 2 14 line 
0 0 0 turn yield
0 0 24 print true 3
0 0 25 line 
1 0 0 turn resume
1 2 15 line 
1 1 1 call g
1 1 2 line 
1 1 3 line 
1 1 5 line 
1 1 5 throw error 1
1 1 0 back error
1 2 8 print off 3
1 2 0 back error
0 0 0 turn error
0 0 25 print false table g:5 f:15
0 0 26 line 
0 0 27 line 
2 0 0 turn resume
2 2 7 call f
2 2 8 line 
2 2 9 line 
2 2 11 line 
2 2 14 line 
0 0 0 turn yield
0 0 28 line 
2 0 0 turn giveup
2 2 8 print off nil
2 2 0 back gone
0 0 0 turn gone
0 0 28 print true
0 0 29 line 
0 0 32 line 
0 0 0 last 
0 3 29 call 
0 3 30 line 
0 3 30 throw table
0 3 0 back error
0 0 0 catch table
0 0 32 print 5
0 0 33 line 
0 0 34 line 
0 0 34 print 1 7
0 0 36 line 
`
	got := impl.Run(text, ample())
	if records(got) != want {
		t.Error(records(got))
	}
	// Cells: two fns, f with one up; two tasks; a table that is joined; a table, its kind with a pair and a fn; a table with a pair.
	if got.Code != 0 || !reflect.DeepEqual(got.Vals, []string{"1", "nil", "x"}) || got.Made != 2+1+2+1+1+3+2 {
		t.Error(got.Code, got.Vals, got.Made)
	}
}

func TestOrdinaryPrograms(t *testing.T) {
	checkShown(t, ample(), []shows{
		{"", ""},
		{"return", ""},
		{"return 1.5, true, {}, print, ...", "returned 3p-1 true table builtin p q"},
		{"print()", ""},
		{"print(nil, true, false, 0x10, -1, 0.5, \"a b\", {}, fn() {}, print, task(fn() {}))", "nil true false 16 -1 1p-1 a b table fn builtin task"},
		{"print(read(), read(), read(), read())", "one two nil nil"},
		{"print(#..., ..., (...))", "1 p p"},
		{"print((...), ...)", "p p q"},
		{"let a, b, c = ...; print(a, b, c)", "p q nil"},
		{"let a, b = 1; print(a, b)", "1 nil"},
		{"let a, b = (fn() {return 1, 2})(), 3; print(a, b)", "1 3"},
		{"let a = 1, print(2); print(a)", "2|1"},
		{"let a, b; a, b = 1, 2; a, b = b, a; print(a, b)", "2 1"},
		{"let a, b = 1, 2; a, b = 3; print(a, b)", "3 nil"},
		{"let a = 1; a = 2, print(3); print(a)", "3|2"},
		{"let i, t = 1, {}; i, t[i] = 2, 5; print(i, t[1], t[2])", "2 5 nil"},
		{"let t = {}; t.a, t.a = 1, 2; print(t.a)", "2"},
		{"let x = 1; let f = fn() {x = x + 1; return x}; f(); print(x, f())", "2 3"},
		{"fn f(n) {if n < 2 {return n}; return f(n - 1) + f(n - 2)}; print(f(10))", "55"},
		{"let t = {}; for i = 1, 3 {let j = i; t[i] = fn() {j = j + 1; return j}}; print(t[1](), t[1](), t[2]())", "2 3 3"},
		{"let f = {}; while #f < 2 {let x = #f; f[x + 1] = fn() {return x}}; print(f[1](), f[2]())", "0 1"},
		{"let x = 1; fn f() {return x}; let x = 2; print(f(), x)", "1 2"},
		{"print((fn(a, b, ...) {return b, ...})(1, 2, 3, 4))", "2 3 4"},
		{"print((fn(a, b) {return a, b})(1))", "1 nil"},
		{"print((fn() {})(), 1)", "nil 1"},
		{"print(1, (fn() {})())", "1"},
		{"print(1, ((fn() {})()))", "1 nil"},
		{"print(type(), text(), type(nil, 1))", "nil nil nil"},
		{"print(type(nil), type(true), type(1), type(1.0), type(\"\"), type({}), type(fn() {}), type(print), type(task(fn() {})))", "nil bool int float str table fn fn task"},
		{"print(text(1.0) .. text(nil) .. text(type))", "1p0nilbuiltin"},
		{"print(1 .. 2, 1.5 .. \"\", \"a\" .. \"b\" .. \"c\")", "12 3p-1 abc"},
		{"const A = 2; const B = A * 3; fn f() {return B}; print(f(), A)", "6 2"},
		{"const P = print; P(1)", "1"},
		{"const print = 3; return print", "returned 3"},
		{"if nil {print(1)} elif 0 {print(2)} else {print(3)}", "2"},
		{"if false {print(1)} elif nil {print(2)} else {print(3)}", "3"},
		{"if false {print(1)}; print(4)", "4"},
		{"{let x = 1; {let x = 2; print(x)}; print(x)}", "2|1"},
		{"while true {while true {break}; print(1); break}; print(2)", "1|2"},
		{"let i = 0; while i < 4 {i = i + 1; if i == 2 {next}; print(i)}", "1|3|4"},
		{"for i = 1, 3 {if i == 2 {next}; print(i); if i == 3 {break}}; for i = 5, 4 {print(i)}", "1|3"},
		{"fn f() {for i = 1, 9 {while true {{return i, \"in\"}}}}; print(f())", "1 in"},
		{"print(nil and 1, 1 and 2, nil or 3, 4 or print(5), false and print(6))", "nil 2 3 4 false"},
		{"print((fn() {return 1, 2})() and (fn() {return 3, 4})())", "3"},
		{"return (fn() {return 1, 2})()", "returned 1 2"},
		{"throw nil", "left by nil at main:1"},
		{"\nthrow {.code = 5}", "left by error 5 at main:2"},
		{"throw {.code = 5.0}", "left by table at main:1"},
		{"throw setkind({}, {.index = {.code = 1}})", "left by table at main:1"},
		{"(fn() {\nthrow print})()", "left by builtin at fn:2 main:1"},
	})
}

func TestOperations(t *testing.T) {
	checkShown(t, ample(), []shows{
		{"print(7 // 2, -7 // 2, 7 // -2, -7 // -2, 7 % 3, -7 % 3, 7 % -3, -7 % -3)", "3 -4 -4 3 1 2 -2 -1"},
		{"print(0x8000000000000000 // -1, 0x8000000000000000 % -1, -0x8000000000000000)", "-9223372036854775808 0 -9223372036854775808"},
		{"print(9223372036854775807 + 1, 9223372036854775807 * 2)", "-9223372036854775808 -2"},
		{"print(1 / 2, 1 / 0, -1 / 0, -(0.0), 0.0 / 0.0, 7.5 // 2, -7.5 % 2, 5 % 1e999)", "1p-1 inf -inf -0p0 nan 3p0 1p-1 nan"},
		{"print(-1.0 // 0, 1 // 0.0, 1 % 0.0)", "-inf inf nan"},
		{"print(1 << 63, 1 << 64, -1 >> 1, -1 >> 63, 1 << 0, 5 & 3, 5 | 3, 5 ~ 3, ~5)", "-9223372036854775808 0 9223372036854775807 1 1 1 7 6 -6"},
		{"print(1 == 1.0, 0.0 == -0.0, \"1\" == 1, nil == false, 9007199254740993 == 9007199254740992.0, 0/0 == 0/0, 0/0 ~= 0/0)", "true true false false false false true"},
		{"print({} == {}, print == print, print == read, print ~= 0)", "false true false true"},
		{"print(\"a\" < \"ab\", \"b\" > \"ab\", \"\" <= \"\", 1 < 1.5, 9007199254740993 > 9007199254740992.0, 0/0 < 1, 0/0 >= 0/0)", "true true true true true false false"},
		{"print(9223372036854775807 < 9223372036854775808.0, 9223372036854775807 == 9223372036854775808.0, 0x8000000000000000 == -9223372036854775808.0)", "true false true"},
		{"print(#\"abc\", #\"\", #{1, 2, nil, 4}, #{}, #{[2] = 1}, not nil, not 0, - -1)", "3 0 2 0 0 true false 1"},
		{"print(1e308 * 10, 5e-324, 0.1, -8.0, 1e22)", "inf 1p-1074 3602879701896397p-55 -1p3 2384185791015625p22"},
	})
}

func TestTables(t *testing.T) {
	checkShown(t, ample(), []shows{
		{"let t = {1, 2, .x = 3, [10] = 4, [1.0] = 5}; print(t[1], t[2.0], t.x, t[\"x\"], t[10], t[nil], t[0/0], t.none)", "5 2 3 3 4 nil nil nil"},
		{"let t = {[0.0] = 1}; print(t[0], t[-0.0]); for k in t {print(type(k))}", "1 1|int"},
		{"let t = {[9223372036854775808.0] = 1, [0x8000000000000000] = 2}; print(t[9223372036854775808.0], t[-9223372036854775808.0]); for k in t {print(type(k))}", "1 2|float|int"},
		{"let t = {[1e999] = 1, [0.5] = 2, [true] = 3, [print] = 4}; print(t[1e999], t[0.5], t[true], t[print], t[false])", "1 2 3 4 nil"},
		{"let k, f = {}, fn() {}; let t = {[k] = 1, [f] = 2}; print(t[k], t[f], t[{}])", "1 2 nil"},
		{"let t = {1, 2, 3}; t[2] = nil; t[4] = 4; t[2] = 5; for k, v in t {print(k, v)}", "1 1|3 3|4 4|2 5"},
		{"let t = {1, 2, 3}; t[2] = 7; for k, v, n in t {print(k, v, n)}", "1 1 nil|2 7 nil|3 3 nil"},
		{"let t = {1}; for k, v in t {if k < 4 {t[k + 1] = v * 2}; t[k] = nil; print(k, v)}; print(#t)", "1 1|2 2|3 4|4 8|0"},
		{"let t = {1, 2, 3}; for k in t {t[2] = nil; print(k)}", "1|3"},
		{"print(#{(fn() {return 1, 2, 3})()}, #{(fn() {return 1, 2, 3})(), 1}, #{((fn() {return 1, 2, 3})())}, #{...}, #{..., ...})", "3 2 1 2 3"},
		{"let t = {[1] = 7, nil}; print(t[1])", "nil"},
		{"let t = {7, 8, (fn() {return 9, nil, 11})()}; print(t[3], t[4], t[5])", "9 nil 11"},
		{"let t = {[2] = 7, 1, (fn() {return nil})()}; print(t[2], #t)", "nil 1"},
		{"let t = {.a = 1, .b = 2}; t.a = nil; t.a = 3; for k in t {print(k)}", "b|a"},
		{"let s = \"\"; for k, v in {.z = 1, .y = 2, .x = 3, 4} {s = s .. k .. v}; print(s)", "z1y2x314"},
		{"let t = {}; t.t = t; print(t.t.t == t)", "true"},
		{"let s = {}; let n = {}; s[n], s[print] = 1, 2; print(s[n], s[print])", "1 2"},
	})
}

func TestCountingLoops(t *testing.T) {
	checkShown(t, ample(), []shows{
		{"for i = 1, 3 {print(i)}", "1|2|3"},
		{"for i = 3, 1, -1 {print(i)}", "3|2|1"},
		{"for i = 1, 0 {print(i)}; for i = 0, 1, -1 {print(i)}", ""},
		{"for i = 1, 7, 3 {print(i); i = 100}", "1|4|7"},
		{"for i = 9223372036854775806, 9223372036854775807 {print(i)}", "9223372036854775806|9223372036854775807"},
		{"for i = 9223372036854775800, 9223372036854775807, 5 {print(i)}", "9223372036854775800|9223372036854775805"},
		{"for i = 0x8000000000000001, 0x8000000000000000, -1 {print(i)}", "-9223372036854775807|-9223372036854775808"},
		{"for i = 0, 9223372036854775807, 0x7fffffffffffffff {print(i)}", "0|9223372036854775807"},
		{"for i = 1, 2.5 {print(i)}", "1p0|1p1"},
		{"for i = 1.0, 2 {print(i)}", "1p0|1p1"},
		{"for i = 1, 2, 0.5 {print(i)}", "1p0|3p-1|1p1"},
		{"for i = 2, 1, -0.5 {print(i)}", "1p1|3p-1|1p0"},
		{"for i = 0/0, 1 {print(i)}; for i = 1, 0/0 {print(i)}", ""},
		{"for i = 0, 1e999, 1e999 {print(i); if i > 0 {break}}", "0p0|inf"},
		{"for i = 1e999, 0 {print(i)}; for i = 1, 1e999 {if i > 2 {break}; print(i)}", "1p0|1p1"},
		{"let f = {}; for i = 1, 2 {f[i] = fn() {i = i + 10; return i}}; print(f[1](), f[1](), f[2]())", "11 21 12"},
	})
}

func TestLoopsOverCalls(t *testing.T) {
	checkShown(t, ample(), []shows{
		{"let i = 0; for a, b, c in fn() {i = i + 1; if i < 3 {return i, i * i}} {print(a, b, c)}", "1 1 nil|2 4 nil"},
		{"for line in read {print(line)}", "one|two"},
		{"for a in fn() {return nil, 1} {print(a)}", ""},
		{"for a in fn() {return false} {print(a); break}", "false"},
		{"let t = setkind({}, {.each = fn(t) {let i = 0; return fn() {i = i + 1; if i < 3 {return i, t == t}}, 5}}); for a, b in t {print(a, b)}", "1 true|2 true"},
		{"for x in setkind({1, 2}, {.each = fn() {return read}}) {print(x)}", "one|two"},
		{"try {for x in setkind({}, {.each = fn() {return {1}}}) {print(x)}} catch e {print(e.code)}", "1"},
		{"try {for x in 5 {print(x)}} catch e {print(e.code)}", "1"},
		{"try {for x in setkind({}, {.call = print}) {print(x)}} catch e {print(e.code)}", ""},
		{"let n = 0; let t = task(fn() {for i = 1, 3 {yield(i)}}); for ok, v in fn() {return resume(t)} {if not v {break}; print(ok, v)}", "true 1|true 2|true 3"},
	})
}
