package tests

import (
	"fmt"
	"math"
	"reflect"
	"runtime"
	"strings"
	"sync"
	"testing"

	"loop.example/mill/impl"
)

// viewed writes down a view: the task, and each open call as its fn, its line and its variables.
func viewed(v impl.View) string {
	if !v.Ok {
		return fmt.Sprint("none", v)
	}
	var calls []string
	for _, o := range v.Calls {
		call := fmt.Sprintf("%d@%d", o.Fn, o.Line)
		for _, s := range o.Vars {
			call += " " + s.Name + "=" + s.Text
		}
		calls = append(calls, call)
	}
	return strings.TrimSpace(fmt.Sprintf("%d: %s", v.Task, strings.Join(calls, ", ")))
}

// views writes down what is seen at each record of a run, a line for each.
func views(text string, in impl.Input) string {
	kinds := []string{"", "line", "call", "back", "throw", "catch", "print", "turn", "last"}
	var b strings.Builder
	for k, rec := range impl.Run(text, in).Recs {
		fmt.Fprintf(&b, "%s %s\n", kinds[rec.Kind], viewed(impl.Look(text, in, k)))
	}
	return b.String()
}

func checkViews(t *testing.T, in impl.Input, text, want string) {
	t.Helper()
	if checked := impl.Check(text); checked.Code != 0 {
		t.Errorf("%s\nis no text: %v", text, checked)
		return
	}
	got := strings.Split(views(text, in), "\n")
	wanted := strings.Split(strings.TrimPrefix(want, "\n")+"\n", "\n")
	for k := range max(len(got), len(wanted)) {
		if k >= len(got) || k >= len(wanted) || got[k] != wanted[k] {
			t.Errorf("%s\nfrom record %d on\n%s\nand not\n%s", text, k, strings.Join(got[min(k, len(got)):], "\n"), strings.Join(wanted[min(k, len(wanted)):], "\n"))
			return
		}
	}
}

func TestViewsOfCalls(t *testing.T) {
	checkViews(t, ample(), "let x = 5\nfn f(a, b) {\n\tlet c = a\n\tprint(c)\n}\nf(x)", `
line 0: 0@1
line 0: 0@2 x=5
line 0: 0@2 x=5 f=nil
line 0: 0@6 x=5 f=fn
call 0: 1@0 a=5 b=nil, 0@6 x=5 f=fn
line 0: 1@3 a=5 b=nil, 0@6 x=5 f=fn
line 0: 1@4 a=5 b=nil c=5, 0@6 x=5 f=fn
print 0: 1@4 a=5 b=nil c=5, 0@6 x=5 f=fn
back 0: 1@0 a=5 b=nil, 0@6 x=5 f=fn`)
	// In the midst of an expression, and of a call's arguments; what is changed inside is seen outside.
	checkViews(t, ample(), "let n = 0\nlet f = fn(...) {n = n + 1; return n}\nlet s = f(f(), 2) .. f()", `
line 0: 0@1
line 0: 0@2 n=0
line 0: 0@3 n=0 f=fn
call 0: 1@0, 0@3 n=0 f=fn
line 0: 1@2, 0@3 n=0 f=fn
line 0: 1@2, 0@3 n=1 f=fn
back 0: 1@0, 0@3 n=1 f=fn
call 0: 1@0, 0@3 n=1 f=fn
line 0: 1@2, 0@3 n=1 f=fn
line 0: 1@2, 0@3 n=2 f=fn
back 0: 1@0, 0@3 n=2 f=fn
call 0: 1@0, 0@3 n=2 f=fn
line 0: 1@2, 0@3 n=2 f=fn
line 0: 1@2, 0@3 n=3 f=fn
back 0: 1@0, 0@3 n=3 f=fn`)
	// Each of the calls of one fn has variables of its own.
	checkViews(t, ample(), "fn f(n) {\nif n > 0 {\nlet m = n - 1\nf(m)\n}\n}\nf(1)", `
line 0: 0@1
line 0: 0@1 f=nil
line 0: 0@7 f=fn
call 0: 1@0 n=1, 0@7 f=fn
line 0: 1@2 n=1, 0@7 f=fn
line 0: 1@3 n=1, 0@7 f=fn
line 0: 1@4 n=1 m=0, 0@7 f=fn
call 0: 1@0 n=0, 1@4 n=1 m=0, 0@7 f=fn
line 0: 1@2 n=0, 1@4 n=1 m=0, 0@7 f=fn
back 0: 1@0 n=0, 1@4 n=1 m=0, 0@7 f=fn
back 0: 1@0 n=1, 0@7 f=fn`)
}

func TestViewsOfValues(t *testing.T) {
	const text = `let a, b, c, d = nil, true, 1 == 2, -7
let e, f, g, h = 1.5, -0.0, "two words\n", {1}
let i, j, k = fn() {}, task(fn() {}), print
print()`
	recs := impl.Run(text, ample()).Recs
	want := "0: 0@4 a=nil b=true c=false d=-7 e=3p-1 f=-0p0 g=two words\n h=table i=fn j=task k=builtin"
	if got := viewed(impl.Look(text, ample(), len(recs)-1)); got != want {
		t.Errorf("%s\nand not\n%s", got, want)
	}
}

func TestViewsOfSameNames(t *testing.T) {
	checkViews(t, ample(), "fn f(a, a, ...) {\nlet a = a\n{\nlet a, a = 1, 2\nprint(...)\n}\nlet b\nprint(b)\nb = 3\nlet b = b, 4\nreturn b\n}\nf(7, 8, 9, 10)", `
line 0: 0@1
line 0: 0@1 f=nil
line 0: 0@13 f=fn
call 0: 1@0 a=7 a=8, 0@13 f=fn
line 0: 1@2 a=7 a=8, 0@13 f=fn
line 0: 1@4 a=7 a=8 a=8, 0@13 f=fn
line 0: 1@5 a=7 a=8 a=8 a=1 a=2, 0@13 f=fn
print 0: 1@5 a=7 a=8 a=8 a=1 a=2, 0@13 f=fn
line 0: 1@7 a=7 a=8 a=8, 0@13 f=fn
line 0: 1@8 a=7 a=8 a=8 b=nil, 0@13 f=fn
print 0: 1@8 a=7 a=8 a=8 b=nil, 0@13 f=fn
line 0: 1@9 a=7 a=8 a=8 b=nil, 0@13 f=fn
line 0: 1@10 a=7 a=8 a=8 b=3, 0@13 f=fn
line 0: 1@11 a=7 a=8 a=8 b=3 b=3, 0@13 f=fn
back 0: 1@0 a=7 a=8, 0@13 f=fn`)
	checkViews(t, ample(), "for i = 1, 2 {\nlet i = i * 10\nfor i, v in {i} {\nlet w\nw = v\n}\n}\nfor k in {.a = 1} {while k {let k = 1; break}}", `
line 0: 0@1
line 0: 0@2 i=1
line 0: 0@3 i=1 i=10
line 0: 0@4 i=1 i=10 i=1 v=10
line 0: 0@5 i=1 i=10 i=1 v=10 w=nil
line 0: 0@2 i=2
line 0: 0@3 i=2 i=20
line 0: 0@4 i=2 i=20 i=1 v=20
line 0: 0@5 i=2 i=20 i=1 v=20 w=nil
line 0: 0@8
line 0: 0@8 k=a
line 0: 0@8 k=a
line 0: 0@8 k=a k=1`)
	checkViews(t, ample(), "const x = 1\nlet x = x\nconst x = 2\nlet x = x\nfn x(x) {try {throw x} catch x, x {print(x)}}\nx(x)", `
line 0: 0@2
line 0: 0@4 x=1
line 0: 0@5 x=1 x=2
line 0: 0@5 x=1 x=2 x=nil
line 0: 0@6 x=1 x=2 x=fn
call 0: 1@0 x=fn, 0@6 x=1 x=2 x=fn
line 0: 1@5 x=fn, 0@6 x=1 x=2 x=fn
line 0: 1@5 x=fn, 0@6 x=1 x=2 x=fn
throw 0: 1@5 x=fn, 0@6 x=1 x=2 x=fn
catch 0: 1@5 x=fn, 0@6 x=1 x=2 x=fn
line 0: 1@5 x=fn x=fn x=x:5 main:6, 0@6 x=1 x=2 x=fn
print 0: 1@5 x=fn x=fn x=x:5 main:6, 0@6 x=1 x=2 x=fn
back 0: 1@0 x=fn, 0@6 x=1 x=2 x=fn`)
}

func TestViewsOfLoops(t *testing.T) {
	checkViews(t, ample(), "fn more(n) {\nlet m = n\nreturn m\n}\nlet n = 0\nwhile more(n) < 1 {\nlet half = n\nn = n + 1\n}", `
line 0: 0@1
line 0: 0@1 more=nil
line 0: 0@5 more=fn
line 0: 0@6 more=fn n=0
call 0: 1@0 n=0, 0@6 more=fn n=0
line 0: 1@2 n=0, 0@6 more=fn n=0
line 0: 1@3 n=0 m=0, 0@6 more=fn n=0
back 0: 1@0 n=0, 0@6 more=fn n=0
line 0: 0@7 more=fn n=0
line 0: 0@8 more=fn n=0 half=0
call 0: 1@0 n=1, 0@6 more=fn n=1
line 0: 1@2 n=1, 0@6 more=fn n=1
line 0: 1@3 n=1 m=1, 0@6 more=fn n=1
back 0: 1@0 n=1, 0@6 more=fn n=1`)
	checkViews(t, ample(), "let n = 0\nfn each() {\nn = n + 1\nif n < 2 {return n, n}\n}\nfor i, k in each {\nlet l = i\n}", `
line 0: 0@1
line 0: 0@2 n=0
line 0: 0@2 n=0 each=nil
line 0: 0@6 n=0 each=fn
call 0: 1@0, 0@6 n=0 each=fn
line 0: 1@3, 0@6 n=0 each=fn
line 0: 1@4, 0@6 n=1 each=fn
line 0: 1@4, 0@6 n=1 each=fn
back 0: 1@0, 0@6 n=1 each=fn
line 0: 0@7 n=1 each=fn i=1 k=1
call 0: 1@0, 0@6 n=1 each=fn
line 0: 1@3, 0@6 n=1 each=fn
line 0: 1@4, 0@6 n=2 each=fn
back 0: 1@0, 0@6 n=2 each=fn`)
}

func TestViewsOfErrors(t *testing.T) {
	checkViews(t, ample(), `fn f(x) {
	defer print(x)
	let y = 1
	try {
		let z = 2
		defer print(z)
		let w = 3
		throw {} + w
	} catch e {
		print(e)
	}
	let v = 4
	throw v
}
try {
	let u = f(9)
} catch e, r {
	let n = 0
}
print(0)`, `
line 0: 0@1
line 0: 0@1 f=nil
line 0: 0@15 f=fn
line 0: 0@16 f=fn
call 0: 1@0 x=9, 0@16 f=fn
line 0: 1@2 x=9, 0@16 f=fn
line 0: 1@3 x=9, 0@16 f=fn
line 0: 1@4 x=9 y=1, 0@16 f=fn
line 0: 1@5 x=9 y=1, 0@16 f=fn
line 0: 1@6 x=9 y=1 z=2, 0@16 f=fn
line 0: 1@7 x=9 y=1 z=2, 0@16 f=fn
line 0: 1@8 x=9 y=1 z=2 w=3, 0@16 f=fn
throw 0: 1@8 x=9 y=1 z=2 w=3, 0@16 f=fn
print 0: 1@6 x=9 y=1 z=2, 0@16 f=fn
catch 0: 1@4 x=9 y=1, 0@16 f=fn
line 0: 1@10 x=9 y=1 e=table _=f:8 main:16, 0@16 f=fn
print 0: 1@10 x=9 y=1 e=table _=f:8 main:16, 0@16 f=fn
line 0: 1@12 x=9 y=1, 0@16 f=fn
line 0: 1@13 x=9 y=1 v=4, 0@16 f=fn
throw 0: 1@13 x=9 y=1 v=4, 0@16 f=fn
print 0: 1@2 x=9, 0@16 f=fn
back 0: 1@0 x=9, 0@16 f=fn
catch 0: 0@15 f=fn
line 0: 0@18 f=fn e=4 r=f:13 main:16
line 0: 0@20 f=fn
print 0: 0@20 f=fn`)
}

func TestViewsOfDefers(t *testing.T) {
	checkViews(t, ample(), "fn off(x) {\nlet o = x\ndefer print(o)\n}\nfor i = 1, 3 {\nlet a = i\ndefer off(a)\nlet b = a\nif i == 1 {\nlet c\nnext\n}\nbreak\n}", `
line 0: 0@1
line 0: 0@1 off=nil
line 0: 0@5 off=fn
line 0: 0@6 off=fn i=1
line 0: 0@7 off=fn i=1 a=1
line 0: 0@8 off=fn i=1 a=1
line 0: 0@9 off=fn i=1 a=1 b=1
line 0: 0@10 off=fn i=1 a=1 b=1
line 0: 0@11 off=fn i=1 a=1 b=1 c=nil
call 0: 1@0 x=1, 0@7 off=fn i=1 a=1
line 0: 1@2 x=1, 0@7 off=fn i=1 a=1
line 0: 1@3 x=1 o=1, 0@7 off=fn i=1 a=1
print 0: 1@3 x=1 o=1, 0@7 off=fn i=1 a=1
back 0: 1@0 x=1, 0@7 off=fn i=1 a=1
line 0: 0@6 off=fn i=2
line 0: 0@7 off=fn i=2 a=2
line 0: 0@8 off=fn i=2 a=2
line 0: 0@9 off=fn i=2 a=2 b=2
line 0: 0@13 off=fn i=2 a=2 b=2
call 0: 1@0 x=2, 0@7 off=fn i=2 a=2
line 0: 1@2 x=2, 0@7 off=fn i=2 a=2
line 0: 1@3 x=2 o=2, 0@7 off=fn i=2 a=2
print 0: 1@3 x=2 o=2, 0@7 off=fn i=2 a=2
back 0: 1@0 x=2, 0@7 off=fn i=2 a=2`)
	// A return on which a defer throws: it stands at the defer, then at what catches.
	checkViews(t, ample(), "let bad = fn(x) {\nlet y = x\nthrow y\n}\nfn f() {\nlet a = 1\ntry {\nlet b = 2\ndefer bad(b)\nlet c = 3\nreturn c\n} catch e {\nlet d = e\n}\n}\nlet r = f()", `
line 0: 0@1
line 0: 0@5 bad=fn
line 0: 0@5 bad=fn f=nil
line 0: 0@16 bad=fn f=fn
call 0: 2@0, 0@16 bad=fn f=fn
line 0: 2@6, 0@16 bad=fn f=fn
line 0: 2@7 a=1, 0@16 bad=fn f=fn
line 0: 2@8 a=1, 0@16 bad=fn f=fn
line 0: 2@9 a=1 b=2, 0@16 bad=fn f=fn
line 0: 2@10 a=1 b=2, 0@16 bad=fn f=fn
line 0: 2@11 a=1 b=2 c=3, 0@16 bad=fn f=fn
call 0: 1@0 x=2, 2@9 a=1 b=2, 0@16 bad=fn f=fn
line 0: 1@2 x=2, 2@9 a=1 b=2, 0@16 bad=fn f=fn
line 0: 1@3 x=2 y=2, 2@9 a=1 b=2, 0@16 bad=fn f=fn
throw 0: 1@3 x=2 y=2, 2@9 a=1 b=2, 0@16 bad=fn f=fn
back 0: 1@0 x=2, 2@9 a=1 b=2, 0@16 bad=fn f=fn
catch 0: 2@7 a=1, 0@16 bad=fn f=fn
line 0: 2@13 a=1 e=2 _=fn:3 f:9 main:16, 0@16 bad=fn f=fn
back 0: 2@0, 0@16 bad=fn f=fn`)
}

func TestViewsOfHandlersAndLastWords(t *testing.T) {
	checkViews(t, ample(), "let log = fn(t, k, v) {\nlet seen = k\nreturn seen\n}\nlet t = setkind({}, {.index = log, .setindex = log, .call = log})\nlet a, b = t.x, t(5)\na, t.y = 6, a", `
line 0: 0@1
line 0: 0@5 log=fn
line 0: 0@6 log=fn t=table
call 0: 1@0 t=table k=x v=nil, 0@6 log=fn t=table
line 0: 1@2 t=table k=x v=nil, 0@6 log=fn t=table
line 0: 1@3 t=table k=x v=nil seen=x, 0@6 log=fn t=table
back 0: 1@0 t=table k=x v=nil, 0@6 log=fn t=table
call 0: 1@0 t=table k=5 v=nil, 0@6 log=fn t=table
line 0: 1@2 t=table k=5 v=nil, 0@6 log=fn t=table
line 0: 1@3 t=table k=5 v=nil seen=5, 0@6 log=fn t=table
back 0: 1@0 t=table k=5 v=nil, 0@6 log=fn t=table
line 0: 0@7 log=fn t=table a=x b=5
call 0: 1@0 t=table k=y v=x, 0@7 log=fn t=table a=6 b=5
line 0: 1@2 t=table k=y v=x, 0@7 log=fn t=table a=6 b=5
line 0: 1@3 t=table k=y v=x seen=y, 0@7 log=fn t=table a=6 b=5
back 0: 1@0 t=table k=y v=x, 0@7 log=fn t=table a=6 b=5`)
	checkViews(t, ample(), "let t = setkind({}, {.last = fn(own) {\nlet word = 1\nthrow word\n}})\nt = nil\nfn clear(a) {\nlet n = collect()\n}\nclear(2)", `
line 0: 0@1
line 0: 0@5 t=table
line 0: 0@6 t=nil
line 0: 0@6 t=nil clear=nil
line 0: 0@9 t=nil clear=fn
call 0: 2@0 a=2, 0@9 t=nil clear=fn
line 0: 2@7 a=2, 0@9 t=nil clear=fn
last 0: 2@7 a=2, 0@9 t=nil clear=fn
call 0: 1@0 own=table, 2@7 a=2, 0@9 t=nil clear=fn
line 0: 1@2 own=table, 2@7 a=2, 0@9 t=nil clear=fn
line 0: 1@3 own=table word=1, 2@7 a=2, 0@9 t=nil clear=fn
throw 0: 1@3 own=table word=1, 2@7 a=2, 0@9 t=nil clear=fn
back 0: 1@0 own=table, 2@7 a=2, 0@9 t=nil clear=fn
catch 0: 2@7 a=2, 0@9 t=nil clear=fn
back 0: 2@0 a=2, 0@9 t=nil clear=fn`)
}

func TestViewsOfTasks(t *testing.T) {
	// A new task has no open call yet, one that is done none any more; one that waits stands at its yield.
	checkViews(t, ample(), "fn f(a, ...) {\nlet b = yield(a)\ndefer print(b)\nlet c = yield()\n}\nlet k, j = task(f), task(fn() {throw 1})\nresume(k, 1, 2)\nresume(k, 3)\nlet g = giveup(k)\nresume(j)", `
line 0: 0@1
line 0: 0@1 f=nil
line 0: 0@6 f=fn
line 0: 0@7 f=fn k=task j=task
turn 1:
call 1: 1@0 a=1
line 1: 1@2 a=1
turn 0: 0@7 f=fn k=task j=task
line 0: 0@8 f=fn k=task j=task
turn 1: 1@2 a=1
line 1: 1@3 a=1 b=3
line 1: 1@4 a=1 b=3
turn 0: 0@8 f=fn k=task j=task
line 0: 0@9 f=fn k=task j=task
turn 1: 1@4 a=1 b=3
print 1: 1@3 a=1 b=3
back 1: 1@0 a=1
turn 0: 0@9 f=fn k=task j=task
line 0: 0@10 f=fn k=task j=task g=true
turn 2:
call 2: 2@0
line 2: 2@6
throw 2: 2@6
back 2: 2@0
turn 0: 0@10 f=fn k=task j=task g=true`)
	checkViews(t, ample(), "let inner = fn(q) {\nlet z = q\nyield(z)\n}\nfn outer(p) {\nlet i = task(inner)\nresume(i, p)\nresume(i)\nyield()\n}\nlet o = task(outer)\nresume(o, 1)\nprint(status(o))", `
line 0: 0@1
line 0: 0@5 inner=fn
line 0: 0@5 inner=fn outer=nil
line 0: 0@11 inner=fn outer=fn
line 0: 0@12 inner=fn outer=fn o=task
turn 1:
call 1: 2@0 p=1
line 1: 2@6 p=1
line 1: 2@7 p=1 i=task
turn 2:
call 2: 1@0 q=1
line 2: 1@2 q=1
line 2: 1@3 q=1 z=1
turn 1: 2@7 p=1 i=task
line 1: 2@8 p=1 i=task
turn 2: 1@3 q=1 z=1
back 2: 1@0 q=1
turn 1: 2@8 p=1 i=task
line 1: 2@9 p=1 i=task
turn 0: 0@12 inner=fn outer=fn o=task
line 0: 0@13 inner=fn outer=fn o=task
print 0: 0@13 inner=fn outer=fn o=task`)
	// One that waits in its defers, and is given up there.
	checkViews(t, ample(), "fn f() {\ndefer yield(1)\nlet x = 2\ndefer yield(x)\nlet y = 3\nthrow y\n}\nlet k = task(f)\nresume(k)\nresume(k)\ngiveup(k)", `
line 0: 0@1
line 0: 0@1 f=nil
line 0: 0@8 f=fn
line 0: 0@9 f=fn k=task
turn 1:
call 1: 1@0
line 1: 1@2
line 1: 1@3
line 1: 1@4 x=2
line 1: 1@5 x=2
line 1: 1@6 x=2 y=3
throw 1: 1@6 x=2 y=3
turn 0: 0@9 f=fn k=task
line 0: 0@10 f=fn k=task
turn 1: 1@4 x=2
turn 0: 0@10 f=fn k=task
line 0: 0@11 f=fn k=task
turn 1: 1@2
back 1: 1@0
turn 0: 0@11 f=fn k=task`)
	// No call of the new task can be opened.
	in := ample()
	in.Depth = 1
	checkViews(t, in, "let f = fn() {}\nlet k = task(f)\nresume(k)", `
line 0: 0@1
line 0: 0@2 f=fn
line 0: 0@3 f=fn k=task
turn 1:
throw 1:
turn 0: 0@3 f=fn k=task`)
}

// A run whose ticks are used up shows up to its last record what the longer one shows.
func TestViewsWithoutTicks(t *testing.T) {
	in := ample()
	in.Ticks = 8
	checkViews(t, in, "let a = 1\nwhile true {\nlet b = a\ndefer print(b)\na = b + 1\n}", `
line 0: 0@1
line 0: 0@2 a=1
line 0: 0@3 a=1
line 0: 0@4 a=1 b=1
line 0: 0@5 a=1 b=1
print 0: 0@4 a=2 b=1`)
	for _, text := range programs()[6:] {
		recs := impl.Run(text, ample()).Recs
		for ticks := 0; ticks < 40; ticks++ {
			in := ample()
			in.Ticks = ticks
			made := len(impl.Run(text, in).Recs)
			for k := range made + 2 {
				want := impl.View{}
				if k < made {
					want = impl.Look(text, ample(), k)
				}
				if got := impl.Look(text, in, k); !reflect.DeepEqual(got, want) {
					t.Fatalf("%s\n%d ticks, record %d of %d\n%v\nand not\n%v", text, ticks, k, len(recs), got, want)
				}
			}
		}
	}
}

func TestWhereThereIsNoRecord(t *testing.T) {
	none := func(text string, in impl.Input, k int) {
		t.Helper()
		if got := impl.Look(text, in, k); !reflect.DeepEqual(got, impl.View{}) {
			t.Errorf("%.40q %d: %v", text, k, got)
		}
	}
	for _, text := range append(programs(), "", "-- remark", "let x") {
		made := len(impl.Run(text, ample()).Recs)
		for _, k := range []int{math.MinInt, -2, -1, made, made + 1, made + 1000, math.MaxInt} {
			none(text, ample(), k)
		}
	}
	for _, text := range []string{
		"let x ==", "\x00", "(", "print(y)", "print = 1", "break", "fn f() {return ...}", "const K = 1 // 0",
		"for a, b, c, d, e in print {}", strings.Repeat(" ", impl.MaxText+1),
	} {
		for k := -1; k < 3; k++ {
			none(text, ample(), k)
		}
	}
	for _, in := range []impl.Input{
		{}, {Ticks: -1, Depth: 1}, {Ticks: impl.MaxTicks + 1, Depth: 1}, {Ticks: 9, Depth: impl.MaxDepth + 1}, {Ticks: 9, Depth: 1, Cells: -1},
		{Ticks: 9, Depth: 1, Cells: impl.MaxCells + 1}, {Ticks: 9, Depth: 1, Args: make([]string, impl.MaxInput+1)}, {Ticks: 0, Depth: 1},
	} {
		for k := -1; k < 3; k++ {
			none("print(1)", in, k)
		}
	}
	if got := viewed(impl.Look("print(1)", impl.Input{Ticks: 1, Depth: 1}, 0)); got != "0: 0@1" {
		t.Error(got)
	}
}

// What the records tell of the place at which they are made is what is seen there.
func TestViewsAndRecords(t *testing.T) {
	for _, text := range programs() {
		open := map[int]int{0: 1}
		for k, rec := range impl.Run(text, ample()).Recs {
			v := impl.Look(text, ample(), k)
			if rec.Kind == impl.RecCall {
				open[rec.Task]++
			}
			if !v.Ok || v.Task != rec.Task || len(v.Calls) != open[rec.Task] {
				t.Fatalf("%s\nrecord %d %v: %v", text, k, rec, v)
			}
			var at impl.Open
			if len(v.Calls) > 0 {
				at = v.Calls[0]
			}
			switch rec.Kind {
			case impl.RecLine, impl.RecPrint, impl.RecThrow:
				if at.Fn != rec.Fn || at.Line != rec.Line {
					t.Fatalf("%s\nrecord %d %v: %v", text, k, rec, v)
				}
			case impl.RecCall, impl.RecBack:
				if at.Fn != rec.Fn || at.Line != 0 {
					t.Fatalf("%s\nrecord %d %v: %v", text, k, rec, v)
				}
			}
			if rec.Kind == impl.RecBack {
				open[rec.Task]--
			}
		}
	}
}

func TestLookLeavesNothingBehind(t *testing.T) {
	before := runtime.NumGoroutine()
	for _, text := range programs()[6:] {
		in := ample()
		var first []impl.View
		for k := range impl.Run(text, in).Recs {
			first = append(first, impl.Look(text, in, k))
		}
		for k := len(first) - 1; k >= 0; k-- {
			again := impl.Look(text, in, k)
			if !reflect.DeepEqual(again, first[k]) {
				t.Fatalf("%s\nrecord %d: %v, then %v", text, k, first[k], again)
			}
			scribbleOver(&again)
			if third := impl.Look(text, in, k); !reflect.DeepEqual(third, first[k]) {
				t.Fatalf("%s\nrecord %d: %v, then %v", text, k, first[k], third)
			}
		}
		if !reflect.DeepEqual(in, ample()) {
			t.Errorf("%s\nhas written into its input: %v", text, in)
		}
	}
	if !settled(before) {
		t.Error("there are goroutines left")
	}
}

// scribbleOver writes into all lists of a view, and behind their ends.
func scribbleOver(v *impl.View) {
	for i := range v.Calls {
		for k := range v.Calls[i].Vars {
			v.Calls[i].Vars[k] = impl.Shown{}
		}
		_ = append(v.Calls[i].Vars, impl.Shown{Name: "x"})
		v.Calls[i] = impl.Open{}
	}
}

func TestListsOfAViewAreApart(t *testing.T) {
	text := "fn f(a, b, c) {\nlet d, e = 4, 5\nif a > 0 {f(a - 1, 2, 3)}\nprint(a)\n}\nlet x, y, z\nf(4)"
	for k := range impl.Run(text, ample()).Recs {
		v, want := impl.Look(text, ample(), k), impl.Look(text, ample(), k)
		for i := range v.Calls {
			_ = append(v.Calls[i].Vars, impl.Shown{Name: "x"}, impl.Shown{Name: "y"})
		}
		if !reflect.DeepEqual(v, want) {
			t.Fatalf("record %d: %v and not %v", k, v, want)
		}
	}
}

func TestLooksBesideEachOther(t *testing.T) {
	text := programs()[6]
	made := len(impl.Run(text, ample()).Recs)
	var wait sync.WaitGroup
	for k := range made {
		want := impl.Look(text, ample(), k)
		for range 3 {
			wait.Add(1)
			go func() {
				defer wait.Done()
				if got := impl.Look(text, ample(), k); !reflect.DeepEqual(got, want) {
					t.Errorf("record %d: %v, not %v", k, got, want)
				}
			}()
		}
	}
	wait.Wait()
}
