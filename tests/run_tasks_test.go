package tests

import (
	"runtime"
	"strings"
	"sync"
	"testing"
	"time"

	"loop.example/mill/impl"
)

func TestTasksTakeTurns(t *testing.T) {
	checkShown(t, ample(), []shows{
		{"let k = task(fn(a, b) {print(a, b); let c, d = yield(1, 2); print(c, d); return 3, 4}); print(resume(k, 5, 6)); print(resume(k, 7, 8))", "5 6|true 1 2|7 8|true 3 4"},
		{"let k = task(fn() {}); print(status(k)); print(resume(k)); print(status(k))", "new|true|done"},
		{"let k; k = task(fn() {print(status(k)); yield()}); resume(k); print(status(k)); resume(k); print(status(k))", "running|waiting|done"},
		{"let a, b; b = task(fn() {print(status(a), status(b))}); a = task(fn() {resume(b); print(status(a), status(b))}); resume(a)", "busy running|running done"},
		{"let k; k = task(fn() {resume(k)}); let ok, e = resume(k); print(ok, e.code)", "false 10"},
		{"let a, b; b = task(fn() {resume(a)}); a = task(fn() {return resume(b)}); let ok, ok2, e = resume(a); print(ok, ok2, e.code)", "true false 10"},
		{"let k = task(fn() {throw {1}}); let ok, e, r = resume(k); print(ok, e[1], r, status(k))", "false 1 fn:1 done"},
		{"let k = task(fn() {yield()}); resume(k); resume(k); try {resume(k)} catch e {print(e.code)}; try {giveup(k)} catch e {print(e.code)}", "10|10"},
		{"fn gen(n) {return task(fn() {for i = 1, n {yield(i)}})}; let a, b = gen(3), gen(2); for i = 1, 4 {print(resume(a)); print(resume(b))}", "true 1|true 1|true 2|true 2|true 3|true|true|left by error 10 at main:1"},
		{"fn deep(n) {if n == 0 {yield(\"deep\"); return 1}; return deep(n - 1) + 1}; let k = task(deep); print(resume(k, 5)); print(resume(k))", "true deep|true 6"},
		{"let k = task(fn() {for v in yield {print(v)}; return \"end\"}); resume(k); resume(k, 1); resume(k, 2); print(resume(k))", "1|2|true end"},
		{"let k = task(fn() {let t = setkind({}, {.add = yield}); return t + 5}); print(resume(k)); print(resume(k, 7, 8))", "true table 5|true 7"},
		{"let k = task(fn() {try {yield(1); throw 2} catch e {yield(e)}; return 3}); print(resume(k)); print(resume(k)); print(resume(k))", "true 1|true 2|true 3"},
		{"let k = task(fn() {{defer yield(1); yield(2)}; return 3}); print(resume(k)); print(resume(k)); print(resume(k))", "true 2|true 1|true 3"},
		{"let k = task(fn() {return yield(yield(1) + yield(2))}); print(resume(k)); print(resume(k, 10)); print(resume(k, 20)); print(resume(k, 3, 4))", "true 1|true 2|true 30|true 3 4"},
		{"try {yield(1)} catch e {print(e.code)}; fn f() {yield()}; try {f()} catch e, r {print(e.code, r)}", "10|10 f:1 main:1"},
		{"let k = task(fn() {yield()}); resume(k); return k", "returned task"},
		{"let o = task(fn() {let i = task(fn() {yield(1); yield(2)}); print(resume(i)); yield(i)}); let ok, i = resume(o); print(resume(i)); print(resume(i), status(i))", "true 1|true 2|true done"},
	})
}

// Each place at which a task can wait, and what is put off around it: the task is given up there.
func TestGivingUpWhereverATaskWaits(t *testing.T) {
	for _, waits := range []string{
		"yield()",
		"let x = yield()",
		"let x, y = 1, yield()",
		"x.a, x[yield()] = 1, 2",
		"x[1], x[2] = 1, yield()",
		"x = {yield()}",
		"x = {[yield()] = 1}",
		"x = {1, [2] = yield(), 3}",
		"x = 1 + yield()",
		"x = yield() .. 1",
		"x = (yield())",
		"x = -yield()",
		"x = x and yield()",
		"x = x[yield()]",
		"if yield() {print(0)}",
		"while yield() {print(0)}",
		"while true {yield()}",
		"for i = 1, yield() {print(0)}",
		"for i = 1, 2 {yield()}",
		"for v in yield {print(0)}",
		"for v in x {yield()}",
		"for v in yield() {print(0)}",
		"return yield()",
		"throw yield()",
		"defer print(yield())",
		"{defer yield()}",
		"{defer yield(); return 1}",
		"{defer yield(); throw 1}",
		"try {defer yield(); throw 1} catch e {print(0)}",
		"try {yield()} catch e {print(0)}",
		"try {throw 1} catch e {yield()}",
		"while true {defer yield(); break}",
		"while true {defer yield(); next}",
		"f(yield())",
		"f(1, 2)",
		"x = setkind({}, {.add = f}) + 1",
		"x = #setkind({}, {.len = f})",
		"x = setkind({}, {.index = f}).y",
		"setkind({}, {.setindex = f}).y = 1",
		"x = setkind({}, {.eq = f}) == {}",
		"x = setkind({}, {.lt = f}) < {}",
		"x = setkind({}, {.each = f}); for v in x {}",
		"x = setkind({}, {.call = f}); x()",
		"(fn() {try {f()} catch e {print(0)}; print(0)})()",
		"fn g() {defer f(); throw 1}; try {g()} catch e {print(0)}",
	} {
		ahead := "fn f(...) {defer print(\"f\"); yield(...); print(0)}\n"
		text := ahead + "let k = task(fn() {let x = {1}; defer print(\"out\"); try {defer print(\"in\"); " + waits + "\nprint(0)} catch e {print(0)}; print(0)})\nresume(k); print(giveup(k)); print(status(k))"
		want := "in|out|true|done"
		if strings.Contains(waits, "f(") && !strings.Contains(waits, "yield(") || strings.Contains(waits, "= f}") {
			want = "f|" + want
		}
		checkShown(t, ample(), []shows{{text, want}})
	}
}

func TestGivingUp(t *testing.T) {
	const bad = "fn bad(v) {throw v}; "
	checkShown(t, ample(), []shows{
		{"let k = task(fn() {print(0)}); print(giveup(k)); print(status(k))", "true|done"},
		{bad + "let k = task(fn() {defer bad(1); yield()}); resume(k); print(giveup(k))", "false 1 bad:1 fn:1"},
		{bad + "let k = task(fn() {defer bad(1); defer print(9); defer bad(2); yield()}); resume(k); print(giveup(k))", "9|false 1 bad:1 fn:1"},
		{bad + "let k = task(fn() {defer print(9); try {defer bad(2); yield()} catch e {print(0)}}); resume(k); print(giveup(k))", "9|false 2 bad:1 fn:1"},
		{bad + "fn safe() {try {bad(1)} catch e {print(\"caught\", e)}}; let k = task(fn() {defer safe(); yield()}); resume(k); print(giveup(k))", "caught 1|true"},
		{"let k = task(fn() {defer yield(1); yield(2)}); print(resume(k)); let a, b, c = giveup(k); print(a, b.code, c)", "true 2|false 10 fn:1"},
		{"fn f() {try {yield()} catch e {print(e.code)}}; let k = task(fn() {defer f(); yield()}); resume(k); print(giveup(k))", "10|true"},
		{"let k; k = task(fn() {defer (fn() {print(status(k)); try {resume(k)} catch e {print(e.code)}; try {giveup(k)} catch e {print(e.code)}})(); yield()}); resume(k); giveup(k)", "running|10|10"},
		{"let j = task(fn() {defer print(\"j\"); yield()}); let k = task(fn() {defer giveup(j); resume(j); yield()}); resume(k); print(giveup(k), status(j))", "j|true done"},
		{"let j = task(fn() {yield(1); yield(2)}); let k = task(fn() {defer (fn() {print(resume(j)); print(resume(j))})(); yield()}); resume(k); print(giveup(k))", "true 1|true 2|true"},
		{bad + "let k = task(fn() {defer bad(1); {defer yield(); throw 2}}); resume(k); print(giveup(k))", "false 1 bad:1 fn:1"},
		{bad + "fn f() {defer bad(1); return 2}; let k = task(fn() {defer f(); yield()}); resume(k); print(giveup(k))", "false 1 bad:1 f:1 fn:1"},
		{bad + "fn f() {try {defer bad(1); return 2} catch e {print(\"caught\", e)}}; let k = task(fn() {defer f(); yield()}); resume(k); print(giveup(k))", "caught 1|true"},
		{"let o; fn f() {defer print(1); yield()}; o = task(fn() {defer print(2); let i = task(f); resume(i); giveup(i); print(3); yield()}); resume(o); giveup(o)", "1|3|2"},
		{"for i = 1, 3 {let k = task(fn() {for j = 1, 5 {defer print(i, j); if j == i {yield()}}}); resume(k); giveup(k)}", "1 1|2 1|2 2|3 1|3 2|3 3"},
	})
	r := impl.Run("fn f() {\ndefer print(1)\nyield()\n}\nlet k = task(fn() {\nf()\n})\nresume(k)\ngiveup(k)", ample())
	const want = `1 0 0 turn giveup
1 1 2 print 1
1 1 0 back gone
1 2 0 back gone
0 0 0 turn gone
`
	if !strings.HasSuffix(records(r), want) {
		t.Error(records(r))
	}
	r = impl.Run("fn bad() {\nthrow 1\n}\nlet k = task(fn() {\ndefer bad()\nyield()\n})\nresume(k)\ngiveup(k)", ample())
	const dropped = `1 0 0 turn giveup
1 1 1 call bad
1 1 2 line 
1 1 2 throw 1
1 1 0 back error
1 2 0 back gone
0 0 0 turn gone
`
	if !strings.HasSuffix(records(r), dropped) {
		t.Error(records(r))
	}
}

func TestYieldWhereItMayNot(t *testing.T) {
	checkShown(t, ample(), []shows{
		{"setkind({}, {.last = fn() {try {yield()} catch e {print(e.code)}}}); collect()", "10"},
		{"let k = task(fn() {setkind({}, {.last = fn() {try {yield()} catch e {print(e.code)}}}); collect(); yield(\"fine\")}); print(resume(k))", "10|true fine"},
		{"let k = task(fn() {setkind({}, {.last = fn() {yield()}}); print(collect()); return 1}); print(resume(k))", "2|true 1"},
		{"let j = task(fn() {yield(\"other\")}); let k = task(fn() {setkind({}, {.last = fn() {print(resume(j))}}); collect()}); print(resume(k))", "true other|true"},
		{"let j = task(fn() {collect(); yield(\"other\")}); let k = task(fn() {setkind({}, {.last = fn() {print(resume(j))}}); collect(); yield(1)}); print(resume(k))", "true other|true 1"},
		{"let k = task(fn() {defer (fn() {try {yield()} catch e {print(e.code)}})(); yield()}); resume(k); giveup(k)", "10"},
	})
}

// settled waits until goroutines that have answered are gone, for a while.
func settled(before int) bool {
	for range 200 {
		if runtime.NumGoroutine() <= before {
			return true
		}
		time.Sleep(5 * time.Millisecond)
	}
	return false
}

func TestNoGoroutineIsLeft(t *testing.T) {
	const many = "fn f(n) {defer print(n); if n > 0 {let k = task(f); resume(k, n - 1)}; yield(n); while true {}}\n"
	before := runtime.NumGoroutine()
	for _, text := range []string{
		many + "let k = {}; for i = 1, 90 {k[i] = task(f); resume(k[i], 0)}",
		many + "let k = {}; for i = 1, 20 {k[i] = task(f); resume(k[i], 4)}; return 1",
		many + "let k = {}; for i = 1, 20 {k[i] = task(f); resume(k[i], 4)}; throw 1",
		many + "let k = {}; for i = 1, 20 {k[i] = task(f); resume(k[i], 4)}; resume(k[3])",
		many + "let k = {}; for i = 1, 50 {k[i] = task(f)}",
		"fn f(n) {let k = task(f); resume(k, n + 1); while true {}}; f(1)",
		"fn f(n) {if n > 20 {while true {}}; resume(task(f), n + 1)}; f(1)",
		"fn f(n) {defer (fn() {while true {}})(); if n > 20 {throw 1}; resume(task(f), n + 1); yield()}; f(1)",
	} {
		for _, ticks := range []int{0, 1, 10, 100, 333, 1000, 5000} {
			in := ample()
			in.Ticks = ticks
			impl.Run(text, in)
			if !settled(before) {
				t.Fatalf("with %d ticks goroutines are left by\n%s", ticks, text)
			}
		}
	}
}

func TestRunsBesideEachOther(t *testing.T) {
	const text = "let s = 0; let k = {}; for i = 1, 20 {k[i] = task(fn(a) {while true {a = a + yield(a)}}); resume(k[i], i)}; for j = 1, 5 {for i = 1, 20 {let ok, v = resume(k[i], j); s = s + v}}; print(s)"
	want := records(impl.Run(text, ample()))
	var all sync.WaitGroup
	for range 20 {
		all.Go(func() {
			if got := records(impl.Run(text, ample())); got != want {
				t.Error(len(got), len(want))
			}
		})
	}
	all.Wait()
}
