package tests

import (
	"strings"
	"testing"

	"loop.example/mill/impl"
)

func TestCellsCounted(t *testing.T) {
	checkShown(t, ample(), []shows{
		{"print(cells(), collect())", "0 0"},
		{"let a = {}; print(cells())", "1"},
		{"let a = {1, 2, .x = {}}; print(cells())", "5"},
		{"let a = {}; a = nil; print(cells())", "0"},
		{"{let a = {}; print(cells())}; print(cells())", "1|0"},
		{"let a = {}; a.a = a; a = nil; print(cells())", "0"},
		{"let a = {}; let b = a; print(cells())", "1"},
		{"fn f() {}; print(cells())", "1"},
		{"fn f() {f()}; print(cells())", "2"},
		{"let x = {}; let f = fn() {return x}; x = f; print(cells())", "2"},
		{"let f; {let x = {1}; f = fn() {return x}}; print(cells())", "4"},
		{"let f; {let x = {1}; f = fn() {return fn() {return x}}}; print(cells(), type(f()), cells())", "4 fn 4"},
		{"let k = task(fn() {}); print(cells())", "2"},
		{"let k = task(fn() {}); resume(k); print(cells())", "1"},
		{"let k = task(fn() {let x = {1}; yield()}); resume(k); print(cells())", "4"},
		{"let k = task(fn() {let x = {1}; yield()}); resume(k); k = nil; print(cells())", "0"},
		{"let k = task(fn() {let x = {1}; yield()}); giveup(k); print(cells())", "1"},
		{"let k = task(fn() {defer (fn() {throw {}})(); yield()}); resume(k); giveup(k); print(cells())", "1"},
		{"task(fn() {}); print(cells())", "0"},
		{"let a = setkind({}, {}); print(cells())", "2"},
		{"let a = setkind({}, {.x = {}}); print(cells())", "4"},
		{"let a = {[{}] = {}}; print(cells())", "4"},
		{"let a = {[print] = fn() {}}; print(cells())", "3"},
		{"try {throw {}} catch e {print(cells())}; print(cells())", "1|0"},
		{"try {let x = 1 // 0} catch e {print(cells())}; print(cells())", "3|0"},
		{"print(cells({}), cells())", "0 0"},
		{"let a; fn f(x, ...) {print(cells())}; f({}, {})", "3"},
		{"fn f(x) {x = nil; print(cells())}; f({})", "1"},
		{"fn f() {print(cells())}; f({}, {})", "1"},
		{"fn f() {let a = {}; return a}; f(); print(cells())", "1"},
		{"(fn() {print(cells())})()", "1"},
		{"let a = {}; let a = 1; print(cells())", "1"},
		{"let a = {}; fn f() {print(cells())}; f()", "2"},
	})
}

// show tells how many cells are counted while it is called, less than its own one.
const show = "fn show() {print(cells() - 1)}\n"

func TestWhatIsInTheMidst(t *testing.T) {
	checkShown(t, ample(), []shows{
		{show + "let a = {} == show()", "1"},
		{show + "let a = {} and show()", "0"},
		{show + "let a = nil or show({})", "0"},
		{show + "let a = ({})[show()]", "1"},
		{show + "let a = {{}, show()}", "3"},
		{show + "let a = {[{}] = show()}", "2"},
		{show + "let a = {[show()] = 1}", "1|left by error 5 at main:2"},
		{show + "let a = {{}, {show()}}", "4"},
		{show + "show({}, show())", "1|0"},
		{show + "(fn() {})(show())", "1"},
		{show + "(fn() {})({}, show(), show())", "2|2"},
		{show + "({print})[1](show())", "0|"},
		{show + "setkind({}, {.call = fn() {}})(show())", "4"},
		{show + "{defer (fn() {})({}, show())}", "2"},
		{show + "(fn(x) {show()})({})", "3"},
		{show + "(fn() {show()})({})", "2"},
		{show + "(fn(...) {show()})({})", "3"},
		{show + "let a, b = {}, show()", "1"},
		{show + "let a = {}, show(), show()", "1|1"},
		{show + "let a; a = {}, show()", "1"},
		{show + "let t = {}; t[{}], t.x = 1, show()", "2"},
		{show + "let t = {}; t[{}], t[show()] = 1, 2", "2|left by error 5 at main:2"},
		{show + "let t = {}; t.x, t.y = {}, show()", "2"},
		{show + "let a = {}; a = show()", "1"},
		{show + "return {}, show()", "1|returned table"},
		{show + "for i = {}, show(), 1 {}", "1|left by error 1 at main:2"},
		{show + "for k in {1} {show()}", "2"},
		{show + "for k in {} {}; show()", "0"},
		{show + "for k in fn() {show()} {}", "2"},
		{show + "for k, v in {{}} {v = nil; show()}", "3"},
		{show + "let n = 0; for a in fn() {n = n + 1; if n < 2 {return {}}; show()} {show()}", "4|3"},
		{show + "for x in setkind({}, {.each = fn() {show(); return fn() {show()}}}) {}", "2|2"},
		{show + "while show() {}", "0"},
		{show + "if show() {} else {let a = {}; show()}; show()", "0|1|0"},
		{show + "throw show({})", "0|left by nil at main:2"},
		{show + "{defer show({}); show()}", "1|0"},
		{show + "{defer show(); defer show({}, {}); show()}", "2|0|0"},
		{show + "{let a = {}; defer show(); let b = {}}", "1"},
		{show + "{let a = {}; {defer show(); let b = {}}; show()}", "1|1"},
		{show + "fn f() {defer show(); return {}}; f()", "3"},
		{show + "fn f() {defer show(); throw {}}; try {f()} catch e {show()}", "3|3"},
		{show + "fn f() {defer show(); throw {}}; try {f()} catch e {e = 1; show()}", "3|2"},
		{show + "fn f() {defer (fn() {throw 1})(); defer show(); return {}}; try {f()} catch e {show()}", "4|2"},
		{show + "fn bad() {throw 1}; fn f() {defer show(); defer bad(); return {}}; try {f()} catch e {}", "4"},
		{show + "let t = setkind({}, {.add = fn(a, b) {show()}}); let x = {} + t", "6"},
		{show + "let x = {} + setkind({}, {.add = fn(a) {show()}})", "3"},
		{show + "let x = {} + setkind({}, {.add = fn() {show()}})", "2"},
		{show + "let x = -setkind({}, {.neg = fn() {show()}})", "2"},
		{show + "let x = setkind({}, {.index = fn() {show()}})[{}]", "2"},
		{show + "setkind({}, {.setindex = fn() {show()}}).x = {}", "2"},
		{show + "let t = {}; setkind({}, {.setindex = fn() {show()}}).x, t[{}], t.y = {}, {}, {}", "6"},
		{show + "let t = {}; t.x, setkind({}, {.setindex = fn() {show()}}).x = 1, {}", "4"},
		{show + "let x = setkind({}, {.call = fn() {show()}})({})", "2"},
		{show + "let x = setkind({}, {.call = fn(self) {show()}})({})", "5"},
		{show + "let k = task(fn(a) {let b = {a, yield()}}); resume(k, {}); show()", "5"},
		{show + "let k = task(fn(a) {a = nil; show(); yield({})}); show(resume(k, {})); show()", "3|3|3"},
		{show + "let k = task(fn() {defer show(); yield()}); resume(k); k = nil; show()", "0"},
		{show + "let k = task(fn() {{defer yield(); return {}}}); resume(k); show()", "3"},
		{show + "fn f() {defer show(); yield()}; let k = task(fn() {{defer f(); return {}}}); resume(k); show(); giveup(k)", "6|5"},
		{show + "let k = task(fn() {defer show(); defer (fn() {throw {}})(); yield()}); resume(k); giveup(k)", "4"},
		{show + "let k = task(fn() {yield()}); resume(k); let j = task(fn() {show()}); resume(j)", "5"},
	})
}

func TestWeakTables(t *testing.T) {
	const weak = "fn weak(how, t) {return setkind(t, {.weak = how})}; fn n(t) {let i = 0; for k in t {i = i + 1}; return i}\n"
	checkShown(t, ample(), []shows{
		{weak + "let t = weak(\"k\", {[{}] = 1, [print] = 2, [5] = 3}); print(n(t), collect(), n(t))", "3 7 2"},
		{weak + "let k = {}; let t = weak(\"k\", {[k] = {}}); collect(); print(n(t), type(t[k])); k = nil; collect(); print(n(t))", "1 table|0"},
		{weak + "let t = weak(\"v\", {{}, 1, fn() {}, task(fn() {}), print}); collect(); print(n(t)); for k in t {print(k)}", "2|2|5"},
		{weak + "let v = {}; let t = weak(\"v\", {[{}] = v, [v] = 5}); collect(); print(n(t))", "2"},
		{weak + "let t = weak(\"v\", {[{}] = {}}); print(collect(), n(t))", "5 0"},
		{weak + "let t = weak(\"kv\", {[{}] = 1, {}, [print] = read}); collect(); print(n(t))", "1"},
		{weak + "let v = {}; let t = weak(\"kv\", {[{}] = v, [v] = {}, [v] = v}); collect(); print(n(t))", "1"},
		{weak + "let t = weak(\"\", {[{}] = {}}); collect(); print(n(t))", "1"},
		{weak + "let t = weak(1, {[{}] = {}}); collect(); print(n(t))", "1"},
		{weak + "let t = weak(nil, {[{}] = {}}); collect(); print(n(t))", "1"},
		{weak + "let t = weak(\"no key\", {[{}] = {}}); collect(); print(n(t))", "0"},
		{weak + "let t = weak(\"very\", {{}}); collect(); print(n(t))", "0"},
		{weak + "let t = weak(\"k\", {}); let k = {}; t[k] = {k}; k = nil; collect(); print(n(t))", "0"},
		{weak + "let t = weak(\"k\", {}); let a, b = {}, {}; t[a], t[b] = b, a; b = nil; collect(); print(n(t)); a = nil; collect(); print(n(t))", "2|0"},
		{weak + "let t, u = weak(\"k\", {}), weak(\"k\", {}); let a, b, c = {}, {}, {}; t[a], u[b], t[c] = b, c, 1; b, c = nil; collect(); print(n(t), n(u)); a = nil; collect(); print(n(t), n(u))", "2 1|0 0"},
		{weak + "let t = weak(\"k\", {}); let f = fn() {}; t[f], t[task(f)] = 1, 2; collect(); print(n(t)); f = nil; collect(); print(n(t))", "1|0"},
		{weak + "let t = weak(\"k\", {[1] = {}, [\"x\"] = {}}); collect(); print(n(t), cells())", "2 9"},
		{weak + "let t = weak(\"k\", {[{}] = {}}); print(cells()); print(n(t)); collect(); print(cells())", "6|1|5"},
		{weak + "let t = weak(\"v\", {{}, {}, 3}); for k in t {collect(); print(k)}", "1|3"},
		{weak + "let t = weak(\"k\", {[{}] = 1}); let u = {t}; t = nil; collect(); print(n(u[1])); u = nil", "0"},
		{weak + "let t = setkind({[{}] = 1}, setkind({}, {.index = {.weak = \"k\"}})); collect(); print(n(t))", "1"},
		{weak + "let t = weak(\"k\", {[{}] = 1}); kind(t).weak = nil; collect(); print(n(t))", "1"},
	})
}

func TestLastWords(t *testing.T) {
	const ahead = "fn word(name) {return {.last = fn(x) {print(name, x.v)}}}; fn dies(name, v) {return setkind({.v = v}, word(name))}\n"
	checkShown(t, ample(), []shows{
		{ahead + "dies(\"a\", 1); print(collect()); collect()", "a 1|3"},
		{ahead + "let t = dies(\"a\", 1); collect(); t = nil; collect(); collect()", "a 1"},
		{ahead + "dies(\"a\", 1); cells(); print(\"end\")", "end"},
		{ahead + "dies(\"a\", 1); print(\"end\")", "end"},
		{ahead + "let x, y = dies(\"a\"), dies(\"b\"); x, y = nil; collect()", "a nil|b nil"},
		{ahead + "let y, x = {}, {}; setkind(x, word(\"x\")); setkind(y, word(\"y\")); x, y = nil; collect()", "y nil|x nil"},
		{ahead + "let t = dies(\"a\", dies(\"b\", dies(\"c\"))); t = nil; collect()", "c nil|b table|a table"},
		{ahead + "let t = dies(\"a\"); t.v = t; t = nil; collect()", "a table"},
		{ahead + "let saved; let t = setkind({}, {.last = fn(x) {saved = x; print(\"back\")}}); t = nil; collect(); print(type(saved)); saved = nil; collect(); print(type(saved))", "back|table|nil"},
		{ahead + "let saved; fn again(x) {saved = x; setkind(x, {.last = again}); print(\"back\")}; let t = setkind({}, {.last = again}); t = nil; collect(); saved = nil; collect(); saved = nil; collect()", "back|back|back"},
		{ahead + "let n = 0; fn again(x) {n = n + 1; if n < 4 {setkind(x, {.last = again})}; print(n)}; setkind({}, {.last = again}); collect()", "1|2|3|4"},
		{ahead + "fn more(x) {print(x.n); if x.n > 0 {setkind({.n = x.n - 1}, {.last = more})}}; setkind({.n = 3}, {.last = more}); collect()", "3|2|1|0"},
		{ahead + "setkind({}, {.last = fn() {throw {.code = 77}}}); dies(\"b\"); print(collect())", "b nil|3"},
		{ahead + "setkind({}, {.last = print}); setkind({}, {.last = 5}); print(collect())", "3"},
		{ahead + "let k = {}; let t = setkind({}, k); k.last = fn() {print(0)}; t = nil; print(collect())", "6"},
		{ahead + "let k = {.last = 5}; let t = setkind({}, k); k.last = fn() {print(0)}; t = nil; print(collect())", "6"},
		{ahead + "let k = {.last = print}; let t = setkind({}, k); k.last = fn() {print(0)}; t = nil; print(collect())", "6"},
		{"let k = {.last = fn(x) {}}; setkind({}, {.last = fn(x) {k.last = nil; print(cells())}}); setkind({}, k); collect()", "8"},
		{ahead + "let k = word(\"a\"); let t = setkind({}, k); k.last = nil; t = nil; collect(); k.last = word(\"b\").last; collect(); print(1)", "1"},
		{ahead + "let k = word(\"a\"); let t = setkind({}, k); k.last = word(\"b\").last; t = nil; collect()", "b nil"},
		{ahead + "let k = word(\"a\"); let t = setkind({}, k); k.last = print; t = nil; collect(); print(1)", "1"},
		{ahead + "let t = dies(\"a\"); setkind(t, nil); t = nil; collect(); print(1)", "1"},
		{ahead + "let t = dies(\"a\"); setkind(t, {}); t = nil; collect(); print(1)", "1"},
		{ahead + "let t = setkind({}, setkind({}, {.index = word(\"a\")})); t = nil; collect(); print(1)", "1"},
		{ahead + "let w = setkind({}, {.weak = \"k\"}); w[dies(\"a\", 1)] = 5; print(collect()); for k in w {print(0)}", "a 1|6"},
		{ahead + "let w = setkind({}, {.weak = \"v\"}); w[1] = dies(\"a\", 1); setkind({}, {.last = fn() {print(w[1])}}); collect()", "a 1|nil"},
		{ahead + "let w = setkind({}, {.weak = \"v\"}); let kept = {}; w[1] = kept; setkind({.k = kept}, {.last = fn(x) {print(type(w[1]))}}); kept = nil; collect(); print(type(w[1]))", "nil|nil"},
		{ahead + "let w = setkind({}, {.weak = \"k\"}); fn f(x) {w[x.k] = 1}; setkind({.k = {}}, {.last = f}); collect(); for k in w {print(0)}; print(1)", "1"},
		{ahead + "dies(\"a\"); dies(\"b\"); let n = cells(); setkind({}, {.last = fn() {print(cells() > n); collect()}}); collect()", "a nil|b nil|true"},
		{ahead + "setkind({}, {.last = fn(x) {x = nil; print(cells())}}); setkind({}, {.last = fn(x) {x = nil; print(cells())}}); collect()", "11|11"},
		{ahead + "setkind({.o = {1, 2}}, {.last = fn(x) {x = nil; print(cells())}}); print(collect())", "11|3"},
		{ahead + "setkind({}, {.last = fn(x) {dies(\"in\"); collect(); print(\"out\")}}); collect()", "in nil|out"},
		{ahead + "let k = task(fn() {dies(\"a\"); collect(); yield()}); resume(k); k = nil; collect()", "a nil"},
		{ahead + "let k = task(fn() {let t = dies(\"a\"); yield()}); resume(k); collect(); print(1); k = nil; collect()", "1|a nil"},
		{ahead + "let k = task(fn() {let t = dies(\"a\"); yield()}); resume(k); giveup(k); collect()", "a nil"},
		{ahead + "{defer collect(); dies(\"a\"); print(1)}; print(2)", "1|a nil|2"},
		{ahead + "let t = {}; t[dies(\"a\")], t.x = nil, collect(); print(1); collect()", "1|a nil"},
		{ahead + "fn f(x) {collect()}; f(dies(\"a\")); print(1); collect()", "1|a nil"},
		{ahead + "fn f(x) {x = nil; collect()}; f(dies(\"a\")); print(1)", "a nil|1"},
		{ahead + "collect(dies(\"a\")); print(1)", "a nil|1"},
		{ahead + "for k, v in dies(\"a\", 5) {collect(); print(k, v)}; collect()", "v 5|a 5"},
		{ahead + "fn f() {defer collect(); return dies(\"a\")}; f(); print(1); collect()", "1|a nil"},
		{ahead + "try {defer collect(); throw dies(\"a\")} catch e {print(1)}; collect()", "1|a nil"},
	})
}

func TestRecordsOfLastWords(t *testing.T) {
	r := impl.Run("let k = task(fn() {\nsetkind({}, {.last = fn(x) {\nlet y = nil + 1\n}})\nreturn collect()\n})\nprint(resume(k))", ample())
	const want = `1 1 5 line 
1 0 0 last 
1 2 2 call 
1 2 3 line 
1 2 3 throw error 1
1 2 0 back error
1 0 0 catch error 1
1 1 0 back 
0 0 0 turn done
0 0 7 print true 2
`
	if !strings.HasSuffix(records(r), want) {
		t.Error(records(r))
	}
}

// What lives after a collect is what counts against the allowance.
func TestCollectMakesRoom(t *testing.T) {
	in := ample()
	in.Cells = 20
	checkShown(t, in, []shows{
		{"for i = 1, 100 {let t = {1, 2, 3, 4}; t = nil; collect()}; print(1)", "1"},
		{"for i = 1, 100 {let t = {1, 2, 3, 4}; t = nil; cells()}; print(1)", "left by error 9 at main:1"},
		{"let t = {}; for i = 1, 19 {t[i] = i}; print(collect()); try {t[20] = 1} catch e {print(e.code)}", "20|9"},
		{"let t = {}; for i = 1, 19 {t[i] = i}; for i = 1, 10 {t[i] = nil}; try {t[20] = 1} catch e {print(e.code)}; collect(); t[20] = 1; print(cells())", "9|11"},
		{"let t = setkind({}, {.last = fn() {let x = {1, 2, 3}}}); t = nil; print(collect()); let u = {1, 2, 3, 4, 5, 6, 7, 8, 9, 10, 11, 12, 13, 14, 15, 16, 17, 18, 19}; print(1)", "0|1"},
	})
}
