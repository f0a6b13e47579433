package tests

import (
	"fmt"
	"math"
	"reflect"
	"runtime"
	"strings"
	"sync"
	"testing"

	"loop.example/mill/impl"
)

// countsOf writes down both counts: each line with its count, then each fn with its line, its calls and its statements.
func countsOf(text string, in impl.Input) string {
	var lines, fns []string
	for _, c := range impl.Lines(text, in) {
		lines = append(lines, fmt.Sprintf("%dx%d", c.Line, c.Count))
	}
	for _, c := range impl.Fns(text, in) {
		fns = append(fns, fmt.Sprintf("%d@%d %d %d", c.Fn, c.Line, c.Calls, c.Self))
	}
	return strings.Join(lines, " ") + " | " + strings.Join(fns, ", ")
}

func checkCounts(t *testing.T, in impl.Input, cases []shows) {
	t.Helper()
	for _, c := range cases {
		if checked := impl.Check(c.text); checked.Code != 0 {
			t.Errorf("%s\nis no text: %v", c.text, checked)
			continue
		}
		if got := countsOf(c.text, in); got != c.want {
			t.Errorf("%s\nhas     %s\nand not %s", c.text, got, c.want)
		}
		checkSums(t, c.text, in)
	}
}

// checkSums holds the counts against the records of the run.
func checkSums(t *testing.T, text string, in impl.Input) {
	t.Helper()
	atLine, inFn, calls := map[int]int{}, map[int]int{}, map[int]int{0: 1}
	began, called := 0, 1
	for _, rec := range impl.Run(text, in).Recs {
		switch rec.Kind {
		case impl.RecLine:
			atLine[rec.Line]++
			inFn[rec.Fn]++
			began++
		case impl.RecCall:
			calls[rec.Fn]++
			called++
		}
	}
	before := 0
	for _, c := range impl.Lines(text, in) {
		if c.Line <= before || c.Count < 1 || c.Count != atLine[c.Line] {
			t.Errorf("%s\nline %d, behind %d, has %d, not %d", text, c.Line, before, c.Count, atLine[c.Line])
		}
		before = c.Line
		began -= c.Count
	}
	if began != 0 {
		t.Errorf("%s\nhas %d statements that are not counted by line", text, began)
	}
	for i, c := range impl.Fns(text, in) {
		if c.Fn != i || c.Calls != calls[i] || c.Self != inFn[i] {
			t.Errorf("%s\nfn %d: %v, not %d calls, %d statements", text, i, c, calls[i], inFn[i])
		}
		began += c.Self
		called -= c.Calls
	}
	for _, n := range inFn {
		began -= n
	}
	if began != 0 || called != 0 {
		t.Errorf("%s\nhas %d statements and %d calls that are not counted by fn", text, -began, called)
	}
}

func TestCountsOfStatements(t *testing.T) {
	checkCounts(t, ample(), []shows{
		// Lines at which nothing begins, or at which a statement only goes on, are not told.
		{"\n\n\nprint(1)\n\n\nprint(\n2)\n-- 3\nlet x = {\n4,\n5}", "4x1 7x1 10x1 | 0@0 1 3"},
		// Blocks and consts are no statements; what stands in blocks is.
		{"{\nconst K = 1\n{\nprint(K)\n}\n}\nconst L = 2\n{}", "4x1 | 0@0 1 1"},
		// A fn with a name is two statements.
		{"fn f() {}", "1x2 | 0@0 1 2, 1@1 0 0"},
		{"let f\nf = fn() {}", "1x1 2x1 | 0@0 1 2, 1@2 0 0"},
		{"let x\nx = 1\nlet a, b = x, x\na, b = b, a", "1x1 2x1 3x1 4x1 | 0@0 1 4"},
		// An if that stands in the place of an else is one of its own, if it comes to that.
		{"let x = 3\nif x == 1 {\nprint(1)\n} elif x == 2 {\nprint(2)\n} elif x == 3 {\nprint(3)\n} elif x == 4 {\nprint(4)\n} else {\nprint(5)\n}", "1x1 2x1 4x1 6x1 7x1 | 0@0 1 5"},
		{"let x = 3\nif x == 1 {\n} elif x == 2 {\n} else {\nprint(5)\n}", "1x1 2x1 3x1 5x1 | 0@0 1 4"},
		{"if true {} elif true {} else {}\nif 1 == 2 {} elif true {} elif true {}", "1x1 2x2 | 0@0 1 3"},
		{"if true {if true {print(1)} else {print(2)}}", "1x3 | 0@0 1 3"},
		{"try {throw 1} catch e {throw 2}", "1x3 | 0@0 1 3"},
		{"return 1", "1x1 | 0@0 1 1"},
		{"return\nprint(1)", "1x1 | 0@0 1 1"},
	})
}

func TestCountsOfLoops(t *testing.T) {
	checkCounts(t, ample(), []shows{
		{"let i = 0\nwhile i < 3 {\ni = i + 1\n}", "1x1 2x1 3x3 | 0@0 1 5"},
		{"while nil {\nprint(1)\n}", "1x1 | 0@0 1 1"},
		{"for i = 1, 0 {\nprint(i)\n}\nfor i = 3, 1, -1 {\nprint(i)\n}", "1x1 4x1 5x3 | 0@0 1 5"},
		{"for i = 1, 4 {\nif i == 2 {next}\nif i == 4 {break}\nprint(i)\n}", "1x1 2x5 3x4 4x2 | 0@0 1 12"},
		{"for i = 1, 2 {\nfor j = 1, 3 {\nprint(i, j)\n}\n}", "1x1 2x2 3x6 | 0@0 1 9"},
		{"for k, v in {1, 2, .x = 3} {\nprint(k)\n}", "1x1 2x3 | 0@0 1 4"},
		{"let n = 0\nfor v in fn() {\nn = n + 1\nif n < 3 {return n}\n} {\nprint(v)\n}", "1x1 2x1 3x3 4x5 6x2 | 0@0 1 4, 1@2 3 8"},
		// One line tells of the loop, its turns and what is called in them.
		{"for i = 1, 3 {let f = fn() {return i}; f()}", "1x10 | 0@0 1 7, 1@1 3 3"},
	})
}

func TestCountsOfFns(t *testing.T) {
	checkCounts(t, ample(), []shows{
		{"fn f() {print(1)}; fn g() {f(); f()}; g(); let h = fn() {}", "1x10 | 0@0 1 6, 1@1 2 2, 2@1 1 2, 3@1 0 0"},
		// Outer ones are numbered ahead of inner ones; the same fn with other variables is one and the same here.
		{"fn f(n) {\nreturn fn() {\nreturn n\n}\n}\nf(1)()\nf(2)()\nlet g = f(3)\ng()\ng()", "1x2 2x3 3x4 6x1 7x1 8x1 9x1 10x1 | 0@0 1 7, 1@1 3 3, 2@2 4 4"},
		{"fn f(n) {if n > 0 {f(n - 1)}}\nf(3)", "1x9 2x1 | 0@0 1 3, 1@1 4 7"},
		// The line of a fn is that at which its parameters begin, the statements are at the line of its name.
		{"fn f\n() {print(1)}\nf()", "1x2 2x1 3x1 | 0@0 1 3, 1@2 1 1"},
		// Those that are never called are told; also those that stand where nothing begins.
		{"fn f() {\nfn g() {\nprint(1)\n}\n}\nif nil {\nlet h = fn() {}\n}\nreturn 1\nlet k = fn() {}", "1x2 6x1 9x1 | 0@0 1 4, 1@1 0 0, 2@2 0 0, 3@7 0 0, 4@10 0 0"},
		{"print(fn() {}, fn() {},\nfn() {})", "1x1 | 0@0 1 1, 1@1 0 0, 2@1 0 0, 3@2 0 0"},
		// Builtins, and calls that cannot be, are no calls of a fn.
		{"try {(nil)()} catch e {print(type(e))}", "1x3 | 0@0 1 3"},
	})
	in := ample()
	in.Depth = 3
	checkCounts(t, in, []shows{{"fn f() {\nf()\n}\nf()", "1x2 2x2 4x1 | 0@0 1 3, 1@1 2 2"}})
	in.Depth = 1
	checkCounts(t, in, []shows{{"fn f() {\nf()\n}\nf()", "1x2 4x1 | 0@0 1 3, 1@1 0 0"}})
}

func TestCountsOfWhatIsCalledOtherwise(t *testing.T) {
	checkCounts(t, ample(), []shows{
		// by tasks
		{"fn f() {\nyield(1)\n}\nlet k = task(f)\nresume(k)\nresume(k)\nlet j = task(f)\nprint(giveup(j))", "1x2 2x1 4x1 5x1 6x1 7x1 8x1 | 0@0 1 7, 1@1 1 1"},
		{"fn f(n) {\nif n > 0 {resume(task(f), n - 1)}\n}\nresume(task(f), 2)", "1x2 2x5 4x1 | 0@0 1 3, 1@1 3 5"},
		// by defers
		{"fn d(a) {\nprint(a)\n}\nfn f() {\ndefer d(1)\nif true {\ndefer d(2)\n}\nreturn 3\n}\nf()", "1x2 2x2 4x2 5x1 6x1 7x1 9x1 11x1 | 0@0 1 5, 1@1 2 2, 2@4 1 4"},
		{"defer (fn() {\nprint(1)\n})()\nreturn 2", "1x1 2x1 4x1 | 0@0 1 2, 1@1 1 1"},
		// by handlers
		{"let k = {.add = fn(a, b) {\nreturn 1\n}, .call = fn(a) {return 2}, .index = fn(t, i) {\nreturn i\n}}\nlet t = setkind({}, k)\nprint(t + t, t(), t.x, t.y)", "1x1 2x1 3x1 4x2 6x1 7x1 | 0@0 1 3, 1@1 1 1, 2@3 1 1, 3@3 2 2"},
		{"let t = setkind({}, {.each = fn() {\nlet n\nreturn fn() {\nif not n {n = 1; return n}\n}\n}})\nfor v in t {\nprint(v)\n}", "1x1 2x1 3x1 4x4 7x1 8x1 | 0@0 1 3, 1@1 1 2, 2@3 2 4"},
		// by last words
		{"let k = {.last = fn(t) {\nprint(1)\nthrow 2\n}}\nlet a, b = setkind({}, k), setkind({}, k)\na = nil\nb = nil\ncollect()", "1x1 2x2 3x2 5x1 6x1 7x1 8x1 | 0@0 1 5, 1@1 2 4"},
	})
}

func TestCountsOfWhatIsLeft(t *testing.T) {
	checkCounts(t, ample(), []shows{
		{"fn f() {\nthrow 1\nprint(2)\n}\ntry {\nf()\nprint(3)\n} catch e {\nprint(e)\n}\nf()\nprint(4)", "1x2 2x2 5x1 6x1 9x1 11x1 | 0@0 1 6, 1@1 2 2"},
		{"fn g() {\nprint(2)\n}\nfn f() {\ndefer g()\nyield()\nprint(1)\n}\nlet k = task(f)\nresume(k)\ngiveup(k)", "1x2 2x1 4x2 5x1 6x1 9x1 10x1 11x1 | 0@0 1 7, 1@1 1 1, 2@4 1 2"},
		// A task that waits when the text ends is never heard of again.
		{"let k = task(fn() {\ndefer print(1)\nyield()\nprint(2)\n})\nresume(k)", "1x1 2x1 3x1 6x1 | 0@0 1 2, 1@1 1 2"},
		{"let k = task(fn() {\nprint(1)\nprint(nil + 1)\nprint(3)\n})\nprint(resume(k))\nthrow 1\nprint(4)", "1x1 2x1 3x1 6x1 7x1 | 0@0 1 3, 1@1 1 2"},
	})
	if code := impl.Run("fn f() {\nthrow 1\n}\nf()", ample()).Code; code != 1 {
		t.Error(code)
	}
}

func TestCountsOfNoStatements(t *testing.T) {
	var texts []shows
	for _, text := range []string{"", " ", "\n\n", "-- remark", "const K = 1", "{}", "{{}\n{}}"} {
		texts = append(texts, shows{text, " | 0@0 1 0"})
	}
	checkCounts(t, ample(), texts)
	checkCounts(t, impl.Input{Depth: 1}, texts)
}

// The statement for which there is no tick did not begin, and no call for which there is none was made.
func TestCountsWithoutTicks(t *testing.T) {
	const text = "fn f(n) {\nprint(n)\n}\nfor i = 1, 2 {\nf(i)\n}"
	for ticks, want := range []string{
		" | 0@0 1 0, 1@1 0 0",
		"1x1 | 0@0 1 1, 1@1 0 0",
		"1x2 | 0@0 1 2, 1@1 0 0",
		"1x2 4x1 | 0@0 1 3, 1@1 0 0",
		"1x2 4x1 | 0@0 1 3, 1@1 0 0",
		"1x2 4x1 5x1 | 0@0 1 4, 1@1 0 0",
		"1x2 4x1 5x1 | 0@0 1 4, 1@1 1 0",
		"1x2 2x1 4x1 5x1 | 0@0 1 4, 1@1 1 1",
		"1x2 2x1 4x1 5x1 | 0@0 1 4, 1@1 1 1",
		"1x2 2x1 4x1 5x1 | 0@0 1 4, 1@1 1 1",
		"1x2 2x1 4x1 5x2 | 0@0 1 5, 1@1 1 1",
		"1x2 2x1 4x1 5x2 | 0@0 1 5, 1@1 2 1",
		"1x2 2x2 4x1 5x2 | 0@0 1 5, 1@1 2 2",
	} {
		in := impl.Input{Ticks: ticks, Depth: 5, Cells: 50}
		if r := impl.Run(text, in); r.Code != 2 {
			t.Errorf("%d ticks: code %d", ticks, r.Code)
		}
		checkCounts(t, in, []shows{{text, want}})
	}
	in := impl.Input{Ticks: impl.MaxTicks, Depth: 1}
	checkCounts(t, in, []shows{{"while true {\nlet x\nlet y\n}", "1x1 2x1666 3x1666 | 0@0 1 3333"}})
}

func TestCountsAddUp(t *testing.T) {
	for _, text := range programs() {
		full := impl.Run(text, ample())
		for ticks := 0; ticks <= full.Ticks; ticks += 1 + full.Ticks/40 {
			in := ample()
			in.Ticks = ticks
			checkSums(t, text, in)
		}
		checkSums(t, text, ample())
		checkSums(t, text, impl.Input{Ticks: full.Ticks, Depth: 2, Cells: full.Made / 2})
	}
}

func TestNothingIsCounted(t *testing.T) {
	nothing := func(text string, in impl.Input) {
		t.Helper()
		if lines, fns := impl.Lines(text, in), impl.Fns(text, in); len(lines)+len(fns) > 0 {
			t.Errorf("%.40q %v %v", text, lines, fns)
		}
	}
	for code, texts := range [][]string{
		1: {"let x ==", "\x00", "(", "print(1); print(", "\xff"},
		2: {strings.Repeat(" ", impl.MaxText+1), "for a, b, c, d, e in print {}"},
		3: {"print(y)", "q()", "print(1)\nfn f() {g()}\nfn g() {}"},
		4: {"print = 1", "const K = 1\nK = 2"},
		5: {"break", "print(1)\nnext"},
		6: {"fn f() {return ...}"},
		7: {"const K = 1 // 0", "print(1)\nconst K = {}"},
	} {
		for _, text := range texts {
			if got := impl.Check(text).Code; got != code {
				t.Errorf("%.40q has code %d, not %d", text, got, code)
			}
			nothing(text, ample())
			nothing(text, impl.Input{})
		}
	}
	long := strings.Repeat("x", 4001)
	for _, in := range []impl.Input{
		{}, {Ticks: -1, Depth: 1}, {Ticks: impl.MaxTicks + 1, Depth: 1}, {Ticks: 9}, {Ticks: 9, Depth: -1}, {Ticks: 9, Depth: impl.MaxDepth + 1},
		{Ticks: 9, Depth: 1, Cells: -1}, {Ticks: 9, Depth: 1, Cells: impl.MaxCells + 1}, {Ticks: 9, Depth: 1, Args: []string{long}},
		{Ticks: 9, Depth: 1, Args: make([]string, impl.MaxInput+1)}, {Ticks: 9, Depth: 1, Lines: make([]string, impl.MaxInput+1)},
		{Ticks: math.MaxInt, Depth: math.MaxInt, Cells: math.MaxInt}, {Ticks: math.MinInt, Depth: math.MinInt, Cells: math.MinInt},
	} {
		for _, text := range append(programs(), "", "print(1)", "let x ==") {
			nothing(text, in)
		}
	}
}

// Both answers are written over, also behind their ends, and nothing else is changed by that.
func TestCountsAreNewMemory(t *testing.T) {
	before := runtime.NumGoroutine()
	for _, text := range append(programs(), "print(1)\nprint(2)") {
		in := ample()
		lines, fns := impl.Lines(text, in), impl.Fns(text, in)
		wantLines, wantFns := append([]impl.LineCount{}, lines...), append([]impl.FnCount{}, fns...)
		otherLines, otherFns := impl.Lines(text, in), impl.Fns(text, in)
		clear(lines[:cap(lines)])
		clear(fns[:cap(fns)])
		for _, got := range [][]impl.LineCount{otherLines, impl.Lines(text, in)} {
			if !reflect.DeepEqual(got, wantLines) {
				t.Errorf("%s\nlines %v, not %v", text, got, wantLines)
			}
		}
		for _, got := range [][]impl.FnCount{otherFns, impl.Fns(text, in)} {
			if !reflect.DeepEqual(got, wantFns) {
				t.Errorf("%s\nfns %v, not %v", text, got, wantFns)
			}
		}
		if !reflect.DeepEqual(in, ample()) {
			t.Errorf("%s\nhas written into its input: %v", text, in)
		}
	}
	if !settled(before) {
		t.Error("there are goroutines left")
	}
}

func TestCountsBesideEachOther(t *testing.T) {
	var wait sync.WaitGroup
	for _, text := range programs() {
		want := countsOf(text, ample())
		for range 4 {
			wait.Add(1)
			go func() {
				defer wait.Done()
				if got := countsOf(text, ample()); got != want {
					t.Errorf("%s\nhas %s, not %s", text, got, want)
				}
			}()
		}
	}
	wait.Wait()
}
