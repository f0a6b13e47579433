package tests

import "testing"

func TestHandlersOfOperations(t *testing.T) {
	for op, name := range map[string]string{
		"+": "add", "-": "sub", "*": "mul", "/": "div", "//": "idiv", "%": "mod",
		"&": "and", "|": "or", "~": "xor", "<<": "shl", ">>": "shr", "..": "join",
	} {
		checkShown(t, ample(), []shows{
			{"let t = setkind({}, {[\"" + name + "\"] = fn(a, b) {return \"" + name + "\", 2}}); print(t " + op + " 1, 1 " + op + " t, t " + op + " t)", name + " " + name + " " + name},
			{"let a, b = setkind({}, {[\"" + name + "\"] = fn(a, b) {return 1}}), setkind({}, {[\"" + name + "\"] = fn(a, b) {return 2}}); print(a " + op + " b, b " + op + " a, {} " + op + " a)", "1 2 1"},
			{"let a, b; a, b = setkind({}, {[\"" + name + "\"] = fn(x, y) {return x == a and y == b}}), {}; print(a " + op + " b)", "true"},
			{"let a, b; a, b = setkind({}, {[\"" + name + "\"] = fn(x, y) {return x == b and y == a}}), {}; print(b " + op + " a)", "true"},
			{"print(setkind({}, {[\"" + name + "\"] = fn() {}}) " + op + " 1)", "nil"},
			{"try {print({} " + op + " 1)} catch e {print(e.code)}", "1"},
			{"try {print(setkind({}, {[\"" + name + "\"] = 5}) " + op + " 1)} catch e {print(e.code)}", "6"},
		})
	}
	checkShown(t, ample(), []shows{
		{"let t = setkind({}, {.neg = fn(v) {return v, 1}, .flip = fn() {return 2}, .len = fn() {return \"len\"}}); print(-t == t, ~t, #t, not t)", "true 2 len false"},
		{"print(#setkind({1, 2}, {}), #setkind({1}, {.len = fn() {}}))", "2 nil"},
		{"print(#setkind({1}, {.len = false}))", "left by error 6 at main:1"},
		{"try {print(-{})} catch e {print(e.code)}; try {print(~{})} catch e {print(e.code)}; try {print(~1.5)} catch e {print(e.code)}; try {print(#1)} catch e {print(e.code)}", "1|1|1|1"},
		{"const T = 1; try {print(1 // 0 + setkind({}, {.add = print}))} catch e {print(e.code)}", "2"},
		{"print(setkind({}, {.idiv = fn() {return 8}}) // 0)", "8"},
	})
}

func TestHandlersOfComparisons(t *testing.T) {
	checkShown(t, ample(), []shows{
		{"let k = {.eq = fn(a, b) {return a.v == b.v}}; fn v(n) {return setkind({.v = n}, k)}; print(v(1) == v(1), v(1) ~= v(1), v(1) == v(2), v(1) ~= v(2))", "true false false true"},
		{"let k = {.eq = fn() {print(\"asked\"); return 5, nil}}; let t = setkind({}, k); print(t == t, t ~= t, t == 1, 1 ~= t, t == {}, {} == t)", "asked|asked|true false false true true true"},
		{"let a, b = setkind({}, {.eq = fn() {return 1}}), setkind({}, {.eq = fn() {return nil}}); print(a == b, b == a, b ~= a)", "true false true"},
		{"print(setkind({}, {.eq = fn() {}}) == {}, setkind({}, {.eq = fn() {}}) ~= {})", "false true"},
		{"let k = {.lt = fn(a, b) {return a.v < b.v}, .le = fn(a, b) {return a.v <= b.v and 7}}; fn v(n) {return setkind({.v = n}, k)}; print(v(1) < v(2), v(1) > v(2), v(1) <= v(1), v(2) >= v(3), v(3) >= v(2))", "true false true false true"},
		{"let t = setkind({}, {.lt = fn(a, b) {return type(a) == \"int\"}}); print(1 < t, t < 1, 1 > t, t > 1)", "true false false true"},
		{"let a, b = setkind({}, {.lt = fn() {return true}}), setkind({}, {.lt = fn() {return false}}); print(a < b, b < a, a > b, b > a)", "true false false true"},
		{"let f = fn(n) {print(n); return setkind({}, {.lt = fn() {}})}; print(f(1) > f(2))", "1|2|false"},
		{"try {print(setkind({}, {.lt = print}) <= 1)} catch e {print(e.code)}", "1"},
		{"try {print(1 < \"a\")} catch e {print(e.code)}; try {print(nil >= nil)} catch e {print(e.code)}; try {print(true < false)} catch e {print(e.code)}", "1|1|1"},
	})
}

func TestReadingAndWritingThroughKinds(t *testing.T) {
	checkShown(t, ample(), []shows{
		{"let t = setkind({.a = 1}, {.index = {.a = 2, .b = 3}}); print(t.a, t.b, t.c)", "1 3 nil"},
		{"let t = setkind({}, {.index = fn(t, k) {return k, 2}}); print(t.x, t[1.0], t[nil])", "x 1p0 nil"},
		{"let t = setkind({}, {.index = 5}); try {print(t.x)} catch e {print(e.code)}", "6"},
		{"let t = setkind({}, {.index = print}); print(t.x)", "table x|nil"},
		{"let inner = setkind({}, {.index = fn(t, k) {return t}}); let t = setkind({}, {.index = inner}); print(t.x == inner)", "true"},
		{"let log = setkind({}, {.setindex = fn(t, k, v) {print(k, v); rawset(t, k, v)}}); log.a = 1; log.a = 2; log.a = nil; log.a = 3; print(log.a)", "a 1|a 3|3"},
		{"let store = {}; let t = setkind({.own = 1}, {.setindex = store}); t.a, t.own = 1, 2; print(rawget(t, \"a\"), store.a, t.own, store.own)", "nil 1 2 nil"},
		{"let t = setkind({}, {.setindex = fn(t, k, v) {print(type(k), v)}}); t[2.0] = nil", "float nil"},
		{"let t = setkind({}, {.setindex = print}); try {t[nil] = 1} catch e {print(e.code)}; try {t[0/0] = 1} catch e {print(e.code)}", "5|5"},
		{"let t = setkind({}, {.setindex = 1}); try {t.x = 1} catch e {print(e.code)}", "6"},
		{"let inner = setkind({}, {.setindex = fn(t, k, v) {rawset(t, k, v)}}); let t = setkind({}, {.setindex = inner}); t.x = 1; print(rawget(inner, \"x\"), rawget(t, \"x\"))", "1 nil"},
		{"let t = setkind({}, {.setindex = {}}); t.x = nil; rawset(t, \"x\", 2); print(t.x)", "2"},
		{"print(kind(setkind({}, {.x = 5})).x, kind({}), kind(1), kind(), kind(\"\"))", "5 nil nil nil nil"},
		{"let t = setkind({}, {.index = {.a = 1}}); setkind(t, nil); print(t.a, kind(t))", "nil nil"},
		{"let t = {}; print(setkind(t, {}) == t, setkind(t) == t, kind(t))", "true true nil"},
		{"print(rawget(setkind({}, {.index = {.a = 1}}), \"a\"), rawget({5}, 1.0), rawget({}, nil), rawget({}))", "nil 5 nil nil"},
		{"let t = {}; print(#{rawset(t, 1, 2)}, t[1]); rawset(t, 1); print(t[1])", "0 2|nil"},
	})
}

func TestCallsThroughKinds(t *testing.T) {
	checkShown(t, ample(), []shows{
		{"let t; t = setkind({}, {.call = fn(self, a, ...) {return self == t, a, ...}}); print(t(1, 2, 3))", "true 1 2 3"},
		{"let inner = setkind({}, {.call = fn(a, b, c) {return type(a), type(b), c}}); let t = setkind({}, {.call = inner}); print(t(7))", "table table 7"},
		{"let t = setkind({}, {.call = print}); t(1)", "table 1"},
		{"try {({})()} catch e {print(e.code)}; try {(setkind({}, {.call = 1}))()} catch e {print(e.code)}; try {(5)()} catch e {print(e.code)}; try {(\"print\")()} catch e {print(e.code)}", "6|6|6|6"},
		{"let t = setkind({}, {.call = fn(self, ...) {return ...}}); defer t(1); print(t(2))", "2"},
		{"try {(task(fn() {}))()} catch e {print(e.code)}", "6"},
	})
}

// chain is a program with so many kinds, one behind the other, by a handler; the last one's is as given.
func chain(n, handler, last, then string) string {
	return "let at = setkind({}, {." + handler + " = " + last + "}); for i = 2, " + n + " {at = setkind({}, {." + handler + " = at})}; try {" + then + "} catch e {print(e.code)}"
}

func TestChainsOfHandlers(t *testing.T) {
	checkShown(t, ample(), []shows{
		{chain("20", "index", "{.x = 5}", "print(at.x)"), "5"},
		{chain("20", "index", "{}", "print(at.x)"), "nil"},
		{chain("21", "index", "{.x = 5}", "print(at.x)"), "11"},
		{chain("21", "index", "fn() {return 7}", "print(at.x)"), "7"},
		{chain("22", "index", "fn() {return 7}", "print(at.x)"), "11"},
		{"let g = {}; " + chain("20", "setindex", "g", "at.x = 5; print(g.x)"), "5"},
		{"let g = {}; " + chain("21", "setindex", "g", "at.x = 5; print(g.x)"), "11"},
		{"let g = {}; " + chain("21", "setindex", "fn(t, k, v) {print(v)}", "at.x = 5"), "5"},
		{"let g = {}; " + chain("22", "setindex", "fn(t, k, v) {print(v)}", "at.x = 5"), "11"},
		{chain("20", "call", "fn(...) {return #{...}}", "print(at(1))"), "21"},
		{chain("21", "call", "fn(...) {return #{...}}", "print(at(1))"), "11"},
		{chain("20", "call", "{}", "print(at(1))"), "6"},
		{chain("20", "call", "5", "print(at(1))"), "6"},
		{"let t = {}; setkind(t, {.index = t, .setindex = t, .call = t}); try {print(t.x)} catch e {print(e.code)}; try {t.x = 1} catch e {print(e.code)}; try {t()} catch e {print(e.code)}", "11|11|11"},
	})
}
