package tests

import (
	"fmt"
	"math/big"
	"math/rand"
	"reflect"
	"regexp"
	"strings"
	"testing"

	"loop.example/mill/impl"
)

const numbersText = `let seen = {1, 1}
setkind(seen, {.index = fn(t, n) {
	let v = t[n - 1] + t[n - 2]
	t[n] = v
	return v
}})
for i = 1, 80 {
	print(seen[i])
}`

const primesText = `let found, n = {}, 2
while n <= 120 {
	let is = true
	for i, p in found {
		if p * p > n {break}
		if n % p == 0 {
			is = false
			break
		}
	}
	if is {found[#found + 1] = n}
	n = n + 1
}
for i, p in found {print(p)}`

const turnsText = `fn counter(name, from, to) {
	return task(fn(first) {
		print(name, "begins with", first)
		for i = from, to {
			let got = yield(name .. i)
			print(name, "got", got)
		}
		return name .. " ends"
	})
}
let all = {counter("a", 1, 3), counter("b", 10, 11), counter("c", 5, 4)}
let round = 0
while #all > 0 {
	round = round + 1
	let left = {}
	for i, k in all {
		let ok, v = resume(k, round * 100 + i)
		print(ok, v, status(k))
		if status(k) == "waiting" {left[#left + 1] = k}
	}
	all = left
}
print("rounds", round)`

const sortText = `fn sort(t, less) {
	fn part(from, to) {
		if from >= to {return}
		let pivot, i = t[to], from
		for j = from, to - 1 {
			if less(t[j], pivot) {
				t[i], t[j] = t[j], t[i]
				i = i + 1
			}
		}
		t[i], t[to] = t[to], t[i]
		part(from, i - 1)
		part(i + 1, to)
	}
	part(1, #t)
	return t
}
fn told(t) {
	let s = ""
	for i = 1, #t {s = s .. t[i] .. ","}
	return s
}
print(told(sort({5, 2, 9, 1, 5, 6, -3, 0, 12, 7}, fn(a, b) {return a < b})))
print(told(sort({"pear", "fig", "apple", "date", ""}, fn(a, b) {return a > b})))
print(told(sort({}, nil)))`

const vectorsText = `let kind = {}
fn vec(x, y) {
	if type(x) ~= "int" or type(y) ~= "int" {throw "no vector"}
	return setkind({.x = x, .y = y}, kind)
}
kind.add = fn(a, b) {return vec(a.x + b.x, a.y + b.y)}
kind.mul = fn(a, b) {
	if type(a) == "int" {return vec(a * b.x, a * b.y)}
	if type(b) == "int" {return vec(a.x * b, a.y * b)}
	return a.x * b.x + a.y * b.y
}
kind.eq = fn(a, b) {return a.x == b.x and a.y == b.y}
kind.lt = fn(a, b) {return a * a < b * b}
kind.neg = fn(a) {return -1 * a}
kind.len = fn(a) {return 2}
kind.call = fn(a, name) {return a[name]}
kind.index = fn(a, k) {throw {.code = 100, .key = k}}
kind.setindex = fn(a, k, v) {throw "closed"}
kind.join = fn(a, b) {return (type(a) == "str" and a or a.x .. ";" .. a.y) .. (type(b) == "str" and b or b.x .. ";" .. b.y)}
let a, b = vec(1, 2), vec(3, -4)
print("" .. a + b, a * b .. "", "" .. 2 * a, "" .. a * 3, "" .. -b)
print(a == vec(1, 2), a ~= b, a < b, a > b, #a, b("y"))
try {print(a.z)} catch e {print(e.code, e.key)}
try {a.z = 1} catch e, trace {print(e, trace)}
try {print(a + 1)} catch e, trace {print(e.code, trace)}
try {vec(1)} catch e {print(e)}
try {print(a <= b)} catch e {print(e.code)}
a.x = 7
print("" .. a)`

const weakText = `fn ring(n) {
	let w = setkind({}, {.weak = "k"})
	let keys = {}
	for i = 1, n {keys[i] = {i}}
	for i = 1, n - 1 {w[keys[n - i]] = keys[n - i + 1]}
	w[keys[n]] = "end"
	return w, keys[1]
}
fn count(t) {
	let n = 0
	for k in t {n = n + 1}
	return n
}
let w, first = ring(...)
collect()
print(count(w), count(first))
let at, steps = first, 0
while w[at] ~= "end" {
	at = w[at]
	steps = steps + 1
}
print(steps)
first, at = nil
collect()
print(count(w))`

func TestProgramsOfTheLanguagesOwn(t *testing.T) {
	var numbers, primes []string
	a, b := big.NewInt(1), big.NewInt(1)
	for range 80 {
		numbers = append(numbers, a.String())
		a, b = b, new(big.Int).Add(a, b)
	}
	for n := int64(2); n <= 120; n++ {
		if big.NewInt(n).ProbablyPrime(0) {
			primes = append(primes, fmt.Sprint(n))
		}
	}
	checkShown(t, ample(), []shows{
		{numbersText, strings.Join(numbers, "|")},
		{primesText, strings.Join(primes, "|")},
		{turnsText, "a begins with 101|true a1 waiting|b begins with 102|true b10 waiting|c begins with 103|true c ends done|" +
			"a got 201|true a2 waiting|b got 202|true b11 waiting|a got 301|true a3 waiting|b got 302|true b ends done|a got 401|true a ends done|rounds 4"},
		{sortText, "-3,0,1,2,5,5,6,7,9,12,|pear,fig,date,apple,,|"},
		{vectorsText, "4;-2 -5 2;4 3;6 -3;4|true true true false 2 -4|100 z|closed fn:18 main:24|7 fn:6 main:25|no vector|1|7;2"},
	})
	for n := 2; n <= 40; n++ {
		in := ample()
		text := strings.Replace(weakText, "ring(...)", fmt.Sprintf("ring(%d)", n), 1)
		checkShown(t, in, []shows{{text, fmt.Sprintf("%d 1|%d|0", n, n-1)}})
	}
}

// programs are some on which promises are held that are about all of them.
func programs() []string {
	list := []string{
		numbersText, primesText, turnsText, sortText, vectorsText, strings.Replace(weakText, "(...)", "(6)", 1),
		"fn f(a) {\ndefer print(\"off\", a)\ntry {\ndefer yield(a)\nthrow {a} .. 1\n} catch e, r {\nprint(e.code, r)\nreturn a, yield(1)\n}\n}\nlet k, j = task(f), task(f)\nprint(resume(k, 1))\nprint(resume(j, 2))\nprint(resume(k))\nprint(giveup(j))\nprint(giveup(k))",
		"let t = setkind({}, {.last = fn(x) {\nprint(\"last\", cells())\nthrow \"word\"\n}})\nt = nil\nprint(collect())\nfor k, v in {.a = 1, 2, ...} {\nprint(k .. \"=\" .. v)\n}\nreturn ..., read()",
		"fn f(n) {\nif n > 0 {\nreturn f(n - 1)\n}\nthrow {.code = n}\n}\nlet s = 0\nfor i = 1, 5 {\ntry {\ndefer f(i)\nif i == 2 {next}\nif i == 4 {break}\ns = s + i\n} catch e {\nprint(i, e.code)\n}\n}\nprint(s)\nf(3)",
		"let k = {}\nfor i = 1, 4 {\nk[i] = task(fn(n) {\ndefer print(i)\nif n > 0 {\nresume(task(fn() {\ndefer print(\"in\", i)\nyield()\n}))\n}\nwhile true {\nyield(n)\n}\n})\nresume(k[i], i % 2)\n}\nfor i = 1, 4 {\nprint(giveup(k[i]))\n}\nwhile true {}",
	}
	return list
}

// With fewer ticks than a run uses its records are the first ones of the run.
func TestFewerTicks(t *testing.T) {
	for _, text := range programs() {
		full := impl.Run(text, ample())
		if full.Code == 3 {
			t.Fatalf("%s\nis no text", text)
		}
		before := 0
		for ticks := 0; ticks <= full.Ticks; ticks++ {
			in := ample()
			in.Ticks = ticks
			r := impl.Run(text, in)
			if ticks == full.Ticks {
				if !reflect.DeepEqual(r, full) {
					t.Errorf("%s\nis another with %d ticks", text, ticks)
				}
				break
			}
			if r.Code != 2 || r.Ticks != ticks || len(r.Vals) > 0 || r.Error != "" || r.Trace != "" || r.Made > full.Made {
				t.Fatalf("%s\nwith %d ticks: %v", text, ticks, r)
			}
			if n := len(r.Recs); n < before || n > len(full.Recs) || n > 0 && !reflect.DeepEqual(r.Recs, full.Recs[:n]) {
				t.Fatalf("%s\nwith %d ticks: other records", text, ticks)
			}
			before = len(r.Recs)
		}
	}
}

// A tick is due just before each step: nothing of the step is recorded without it.
func TestWhereTicksRunOut(t *testing.T) {
	for _, c := range []struct {
		text string
		want []string // the records that come with each further tick
	}{
		{"print(1)", []string{"", "0 0 1 line \n", "0 0 1 print 1\n"}},
		{"fn f() {return 1}\nlet x = f() .. f()", []string{"", "0 0 1 line \n", "0 0 1 line \n", "0 0 2 line \n", "0 1 1 call f\n", "0 1 1 line \n0 1 0 back \n", "0 1 1 call f\n", "0 1 1 line \n0 1 0 back \n", ""}},
		{"while true {break}", []string{"", "0 0 1 line \n", "", "0 0 1 line \n"}},
		{"for i = 1, 2 {}\nprint(1)", []string{"", "0 0 1 line \n", "", "", "0 0 2 line \n", "0 0 2 print 1\n"}},
		{"fn f() {}\nfor x in f {}", []string{"", "0 0 1 line \n", "0 0 1 line \n", "0 0 2 line \n", "", "0 1 1 call f\n0 1 0 back \n"}},
		{"let k = task(fn() {})\nresume(k)", []string{"", "0 0 1 line \n", "", "0 0 2 line \n", "1 0 0 turn resume\n", "1 1 1 call \n1 1 0 back \n0 0 0 turn done\n"}},
		{"(nil)()", []string{"", "0 0 1 line \n", "0 0 1 throw error 6\n"}},
		{"defer print(1)\ndefer print(2)", []string{"", "0 0 1 line \n", "0 0 2 line \n", "0 0 2 print 2\n", "0 0 1 print 1\n"}},
		{"setkind({}, {.last = fn() {}})\ncollect()", []string{"", "0 0 1 line \n", "", "0 0 2 line \n", "0 0 0 last \n", "0 1 1 call \n0 1 0 back \n"}},
	} {
		ahead := ""
		for ticks, more := range c.want {
			in := ample()
			in.Ticks = ticks
			r := impl.Run(c.text, in)
			ahead += more
			if records(r) != ahead || r.Ticks != ticks || (r.Code == 2) != (ticks < len(c.want)-1) {
				t.Errorf("%s\nwith %d ticks: code %d, %d ticks\n%s", c.text, ticks, r.Code, r.Ticks, records(r))
			}
		}
	}
}

var pieces = regexp.MustCompile(`"(?:[^"\\\n]|\\.)*"|--[^\n]*|[A-Za-z_][A-Za-z_0-9]*|[0-9][0-9a-fx.]*|\.\.\.|\.\.|//|<<|>>|==|~=|<=|>=|[ \t]+|\n|.`)

func wordLike(b byte) bool { return isLetter(b) || b >= '0' && b <= '9' || b == '"' }

// blanked is a text with other blanks, and each token in its line.
func blanked(r *rand.Rand, text string) string {
	var b strings.Builder
	last := byte('\n')
	for _, piece := range pieces.FindAllString(text, -1) {
		if strings.Trim(piece, " \t") == "" {
			continue
		}
		if piece == "\n" {
			if r.Intn(3) == 0 {
				b.WriteString("-- remark " + pick(r, []string{"", "\"", "{", "\r"}))
			}
		} else if sticks := wordLike(last) == wordLike(piece[0]); sticks || r.Intn(2) == 0 {
			b.WriteString(pick(r, []string{" ", "\t", "\r", "  ", " \t\r "}))
		}
		b.WriteString(piece)
		last = piece[len(piece)-1]
	}
	return b.String()
}

func TestOtherBlanks(t *testing.T) {
	r := rand.New(rand.NewSource(5))
	for _, text := range programs() {
		in := ample()
		in.Ticks = 1000
		want := impl.Run(text, in)
		for range 20 {
			other := blanked(r, text)
			if other == text {
				t.Errorf("the same blanks: %s", text)
			}
			if got := impl.Run(other, in); !reflect.DeepEqual(got, want) {
				t.Fatalf("%s\nshows something else than\n%s", other, text)
			}
		}
		if got := impl.Run(impl.Tidied(text), in); got.Code != want.Code || got.Ticks != want.Ticks || len(got.Recs) != len(want.Recs) {
			t.Errorf("tidied, it is another: %s", text)
		}
	}
}

// Nothing is written into an argument, and the same arguments have the same answer.
func TestArgumentsStay(t *testing.T) {
	for _, text := range programs() {
		in := ample()
		first := impl.Run(text, in)
		if !reflect.DeepEqual(in, ample()) {
			t.Errorf("%s\nchanged its input", text)
		}
		second := impl.Run(text, in)
		if !reflect.DeepEqual(first, second) {
			t.Errorf("%s\nis another the second time", text)
		}
		for i := range second.Recs {
			second.Recs[i].Text = "written over"
		}
		if !reflect.DeepEqual(first, impl.Run(text, in)) {
			t.Errorf("%s\nshares its records", text)
		}
	}
}
