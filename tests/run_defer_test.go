package tests

import (
	"testing"

	"loop.example/mill/impl"
)

func TestDefersOnEachWayOut(t *testing.T) {
	checkShown(t, ample(), []shows{
		{"{defer print(1); defer print(2); print(0)}; print(3)", "0|2|1|3"},
		{"defer print(1); print(0)", "0|1"},
		{"defer print(1); return 5", "1|returned 5"},
		{"defer print(1); throw 5", "1|left by 5 at main:1"},
		{"fn f() {defer print(1); {defer print(2); return 3}}; print(f())", "2|1|3"},
		{"fn f() {defer print(1); {defer print(2); throw 3}}; try {f()} catch e {print(e)}", "2|1|3"},
		{"for i = 1, 3 {defer print(i); if i == 2 {break}; print(\"in\")}; print(\"out\")", "in|1|2|out"},
		{"for i = 1, 2 {defer print(i); next; print(\"no\")}; print(\"out\")", "1|2|out"},
		{"let i = 0; while i < 2 {i = i + 1; defer print(i)}", "1|2"},
		{"for k in {5, 6} {defer print(k)}", "1|2"},
		{"try {defer print(1); throw 2} catch e {defer print(3); print(e)}; print(4)", "1|2|3|4"},
		{"if true {defer print(1); print(0)} else {}", "0|1"},
		{"let x = 1; defer print(x); x = 2; print(x)", "2|1"},
		{"let f = print; defer f(1); f = nil", "1"},
		{"fn f() {print(\"made\"); return fn() {print(\"run\")}}; {defer f()(); print(\"in\")}", "made|in|run"},
		{"fn f() {return 1, 2}; {defer print(f()); print(0)}", "0|1 2"},
		{"let k = task(fn() {defer print(1); {defer print(2); yield()}}); resume(k); giveup(k)", "2|1"},
		{"let k = task(fn() {defer print(1); yield()}); resume(k); resume(k)", "1"},
		{"let k = task(fn() {defer print(1); yield()}); resume(k); print(0)", "0"},
		{"{defer (nil)()}", "left by error 6 at main:1"},
		{"{defer (fn() {return 1})()}; print(2)", "2"},
		{"if true {defer print(1)}; while true {defer print(2); {break}}; print(3)", "1|2|3"},
		{"fn f() {if true {defer print(1); return 2}; return 3}; print(f())", "1|2"},
		{"fn f() {defer print(1)\nfor i = 1, 2 {defer print(2)\nwhile true {defer print(3)\ntry {defer print(4)\nreturn 5} catch e {}}}}; print(f())", "4|3|2|1|5"},
	})
}

func TestErrorsOutOfDefers(t *testing.T) {
	const bad = "fn bad(v) {throw v}; "
	checkShown(t, ample(), []shows{
		{bad + "try {{defer bad(1); print(0)}; print(2)} catch e, r {print(e, r)}", "0|1 bad:1 main:1"},
		{bad + "fn f() {defer bad(1); return 2}; try {print(f())} catch e {print(e)}", "1"},
		{bad + "try {defer bad(1); throw 2} catch e {print(e)}", "1"},
		{bad + "try {while true {defer bad(1); break}; print(2)} catch e {print(e)}", "1"},
		{bad + "try {for i = 1, 2 {defer bad(i); next}; print(2)} catch e {print(e)}", "1"},
		{bad + "try {defer print(9); defer bad(1); defer print(8); defer bad(2); throw 3} catch e {print(e)}", "8|9|1"},
		{bad + "fn f() {try {defer bad(1); return 2} catch e {return e + 10}}; print(f())", "11"},
		{bad + "fn f() {while true {try {defer bad(1); break} catch e {print(e); return 3}}}; print(f())", "1|3"},
		{bad + "fn f() {{defer bad(1)}; return 2}; try {f()} catch e {print(e)}", "1"},
		{bad + "try {{defer bad(1); {defer bad(2); defer bad(3)}}} catch e {print(e)}", "1"},
		{bad + "defer bad(1); return 2", "left by 1 at bad:1 main:1"},
		{bad + "defer bad(1)", "left by 1 at bad:1 main:1"},
		{bad + "fn f() {try {bad(1)} catch e {print(e)}}; fn g() {defer f(); throw 2}; try {g()} catch e {print(e)}", "1|2"},
		{bad + "let n = 0; try {while n < 3 {n = n + 1; try {defer bad(n); next} catch e {print(e)}}; print(\"end\")} catch e {print(0)}", "1|2|3|end"},
	})
	r := impl.Run("fn bad() {\nthrow 1\n}\nfn f() {\ndefer bad()\nthrow 2\n}\ntry {\nf()\n} catch e {}", ample())
	const want = `0 0 1 line 
0 0 1 line 
0 0 4 line 
0 0 4 line 
0 0 8 line 
0 0 9 line 
0 2 4 call f
0 2 5 line 
0 2 6 line 
0 2 6 throw 2
0 1 1 call bad
0 1 2 line 
0 1 2 throw 1
0 1 0 back error
0 2 0 back error
0 0 8 catch 1
`
	if records(r) != want {
		t.Error(records(r))
	}
}

// What is put off is not done when the ticks are used up.
func TestDefersWithoutTicks(t *testing.T) {
	in := ample()
	in.Ticks = 7
	checkShown(t, in, []shows{
		{"defer print(1); while true {}", "code 2"},
		{"let k = task(fn() {defer print(1); while true {}}); resume(k)", "code 2"},
		{"let k = task(fn() {defer print(1); yield()}); resume(k)", "code 2"},
	})
	in.Ticks = 8
	checkShown(t, in, []shows{{"let k = task(fn() {defer print(1); yield()}); resume(k)", ""}})
	in.Ticks = 2
	checkShown(t, in, []shows{{"defer print(1); defer print(2)", "code 2"}})
	in.Ticks = 3
	checkShown(t, in, []shows{{"defer print(1); defer print(2)", "2|code 2"}})
}
