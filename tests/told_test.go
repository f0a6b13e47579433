package tests

import (
	"fmt"
	"math"
	"math/rand"
	"runtime"
	"strings"
	"testing"

	"loop.example/mill/impl"
)

// inQuotes writes a text down byte by byte.
func inQuotes(s string) string {
	var b strings.Builder
	for _, c := range []byte(s) {
		switch {
		case c == 10:
			b.WriteString("\\n")
		case c == 9:
			b.WriteString("\\t")
		case c == 34 || c == 92:
			b.WriteString("\\" + string(rune(c)))
		case c >= 32 && c <= 126:
			b.WriteByte(c)
		default:
			fmt.Fprintf(&b, "\\x%02x", c)
		}
	}
	return "\"" + b.String() + "\""
}

// reportLines is what has to be told of a run, line by line.
func reportLines(r impl.Report) []string {
	kinds := map[int]string{
		impl.RecLine: "line", impl.RecCall: "call", impl.RecBack: "back", impl.RecThrow: "throw",
		impl.RecCatch: "catch", impl.RecPrint: "print", impl.RecTurn: "turn", impl.RecLast: "last",
	}
	var lines []string
	for _, rec := range r.Recs {
		lines = append(lines, fmt.Sprintf("%d %d %d %s %s", rec.Task, rec.Fn, rec.Line, kinds[rec.Kind], inQuotes(rec.Text)))
	}
	end := map[int]string{0: "returned", 1: "error", 2: "no more ticks"}[r.Code]
	if r.Code == 1 {
		end += " " + inQuotes(r.Error) + " " + inQuotes(r.Trace)
	}
	for _, v := range r.Vals {
		end += " " + inQuotes(v)
	}
	return append(lines, end, fmt.Sprintf("%d ticks %d cells", r.Ticks, r.Made))
}

// linesToTell is what has to be told of a text and an input.
func linesToTell(text string, in impl.Input) []string {
	c := impl.Check(text)
	if c.Code == 2 {
		return []string{"too large"}
	}
	if c.Code != 0 {
		names := []string{"", "cannot stand", "", "no such name", "cannot be written", "no loop", "no rest", "no const"}
		return []string{fmt.Sprintf("%d:%d %s", c.Line, c.Column, names[c.Code])}
	}
	if !impl.InputOk(in) {
		return []string{"no input"}
	}
	return reportLines(impl.Run(text, in))
}

// checkTold holds what is told against what Check and Run answer, line by line.
func checkTold(t *testing.T, text string, in impl.Input) {
	t.Helper()
	got, ok := strings.CutSuffix(impl.Told(text, in), "\n")
	if !ok {
		t.Errorf("%.200q\nis told as %.200q, without a newline", text, got)
		return
	}
	lines, want := strings.Split(got, "\n"), linesToTell(text, in)
	for i := range min(len(lines), len(want)) {
		if lines[i] != want[i] {
			t.Errorf("%.200q\nline %d is %.200s\nand not   %.200s", text, i, lines[i], want[i])
			return
		}
	}
	if len(lines) != len(want) {
		t.Errorf("%.200q\nis told in %d lines, not in %d", text, len(lines), len(want))
	}
}

type telling struct {
	text string
	want []string
}

// checkTellings holds what is told of texts against lines that are written out.
func checkTellings(t *testing.T, in impl.Input, cases []telling) {
	t.Helper()
	for _, c := range cases {
		if got, want := impl.Told(c.text, in), strings.Join(c.want, "\n")+"\n"; got != want {
			t.Errorf("%.200q\nis told as\n%snot as\n%s", c.text, got, want)
		}
		checkTold(t, c.text, in)
	}
}

func TestTellingsOfPrograms(t *testing.T) {
	for _, text := range programs() {
		checkTold(t, text, ample())
		for ticks := range 200 {
			in := ample()
			in.Ticks = ticks
			checkTold(t, text, in)
		}
		for depth := 1; depth <= 5; depth++ {
			in := ample()
			in.Depth, in.Cells = depth, depth*depth*2
			checkTold(t, text, in)
		}
	}
}

// wrongTexts are some with each Code of Check, with what is told of them.
func wrongTexts() []telling {
	deep := strings.Repeat("-- x\n", 1233)
	return []telling{
		{"let x ==", []string{"1:8 cannot stand"}},
		{"\x00", []string{"1:1 cannot stand"}},
		{"print(", []string{"1:7 cannot stand"}},
		{"print(1)\n\nprint(\"\n\")", []string{"3:8 cannot stand"}},
		{deep + strings.Repeat(" ", 98) + "$", []string{"1234:99 cannot stand"}},
		{strings.Repeat("\n", 9) + strings.Repeat("\t", 9999) + "}", []string{"10:10000 cannot stand"}},
		{strings.Repeat("\n", impl.MaxText-1) + ")", []string{fmt.Sprint(impl.MaxText, ":1 cannot stand")}},
		{strings.Repeat(" ", impl.MaxText), []string{"returned", "0 ticks 0 cells"}},
		{strings.Repeat(" ", impl.MaxText+1), []string{"too large"}},
		{strings.Repeat("$", impl.MaxText+1), []string{"too large"}},
		{"\n\nfor a, b, c, d, e in 1 {}", []string{"too large"}},
		{"q()", []string{"1:1 no such name"}},
		{"print(1)\n\n  print(y)", []string{"3:9 no such name"}},
		{deep + "print(1 +     yy)", []string{"1234:15 no such name"}},
		{"print = 1", []string{"1:1 cannot be written"}},
		{"const K = 1\nlet x\nx, K = 2", []string{"3:4 cannot be written"}},
		{"break", []string{"1:1 no loop"}},
		{"while true {fn f() {\n\tnext\n}}", []string{"2:2 no loop"}},
		{"fn f() {return ...}", []string{"1:16 no rest"}},
		{"let f = fn() {\nprint(1, ...)\n}", []string{"2:10 no rest"}},
		{"const K = 1 // 0", []string{"1:1 no const"}},
		{"print(1)\n" + strings.Repeat(" ", 10) + "const K = {}", []string{"2:11 no const"}},
	}
}

// wrongInputs are not valid, each in one way.
func wrongInputs() []impl.Input {
	long := strings.Repeat("x", 4001)
	return []impl.Input{
		{},
		{Ticks: -1, Depth: 1}, {Ticks: impl.MaxTicks + 1, Depth: 1}, {Ticks: math.MinInt, Depth: 1}, {Ticks: math.MaxInt, Depth: 1},
		{Ticks: 9}, {Ticks: 9, Depth: -1}, {Ticks: 9, Depth: impl.MaxDepth + 1}, {Depth: math.MinInt}, {Depth: math.MaxInt},
		{Ticks: 9, Depth: 1, Cells: -1}, {Ticks: 9, Depth: 1, Cells: impl.MaxCells + 1}, {Depth: 1, Cells: math.MinInt}, {Depth: 1, Cells: math.MaxInt},
		{Ticks: 9, Depth: 1, Args: []string{long}}, {Ticks: 9, Depth: 1, Args: []string{"", long}},
		{Ticks: 9, Depth: 1, Lines: []string{long}}, {Ticks: 9, Depth: 1, Lines: []string{"a", "", long, "b"}},
		{Ticks: 9, Depth: 1, Args: make([]string, impl.MaxInput+1)}, {Ticks: 9, Depth: 1, Lines: make([]string, impl.MaxInput+1)},
	}
}

func TestTellingsOfWrongTexts(t *testing.T) {
	checkTellings(t, ample(), wrongTexts())
	codes := map[int]int{}
	for _, c := range wrongTexts() {
		code := impl.Check(c.text).Code
		codes[code]++
		if got, want := impl.Answer(c.text), strings.Join(c.want, "\n")+"\n"; got != want {
			t.Errorf("%.40q: Answer is %q, not %q", c.text, got, want)
		}
		// What is wrong with a text is told whatever the input is like.
		for _, in := range wrongInputs() {
			want := strings.Join(c.want, "\n") + "\n"
			if code == 0 {
				want = "no input\n"
			}
			if got := impl.Told(c.text, in); got != want {
				t.Errorf("%.40q, with a wrong input: %q, not %q", c.text, got, want)
			}
		}
	}
	for code := 1; code <= 7; code++ {
		if codes[code] == 0 {
			t.Errorf("there is no text with the code %d", code)
		}
	}
}

func TestTellingsOfWrongInputs(t *testing.T) {
	for i, in := range wrongInputs() {
		if impl.InputOk(in) {
			t.Errorf("input %d is valid", i)
		}
		for _, text := range append(programs(), "", "print(1)", "return ...", "throw 1") {
			if got := impl.Told(text, in); got != "no input\n" {
				t.Errorf("%s\nwith input %d: %q", text, i, got)
			}
		}
	}
	full := make([]string, impl.MaxInput)
	for i := range full {
		full[i] = strings.Repeat("\xff", 4000)
	}
	for _, in := range []impl.Input{
		{Depth: 1},
		{Depth: impl.MaxDepth, Ticks: impl.MaxTicks, Cells: impl.MaxCells},
		{Depth: 1, Ticks: 9, Args: full, Lines: full},
	} {
		checkTold(t, "return read(), ...", in)
		if got := impl.Told("", in); got != "returned\n0 ticks 0 cells\n" {
			t.Errorf("%v: %q", in.Depth, got)
		}
	}
}

func TestTellingsOfRecords(t *testing.T) {
	checkTellings(t, ample(), []telling{
		{"print(1,\n2)\nprint()", []string{
			`0 0 1 line ""`, `0 0 1 print "1 2"`, `0 0 3 line ""`, `0 0 3 print ""`, `returned`, `4 ticks 0 cells`,
		}},
		{"fn f(a) {\nreturn a\n}\nf(1)\nlet g = fn() {}\ng()", []string{
			`0 0 1 line ""`, `0 0 1 line ""`, `0 0 4 line ""`, `0 1 1 call "f"`, `0 1 2 line ""`, `0 1 0 back ""`,
			`0 0 5 line ""`, `0 0 6 line ""`, `0 2 5 call ""`, `0 2 0 back ""`, `returned`, `8 ticks 2 cells`,
		}},
		{"try {\nlet x = nil + 1\n} catch e, r {\nprint(r)\n}", []string{
			`0 0 1 line ""`, `0 0 2 line ""`, `0 0 2 throw "error 1"`, `0 0 1 catch "error 1"`,
			`0 0 4 line ""`, `0 0 4 print "main:2"`, `returned`, `4 ticks 0 cells`,
		}},
		{"fn f() {\nthrow \"no\"\n}\ntry {f()} catch e {}", []string{
			`0 0 1 line ""`, `0 0 1 line ""`, `0 0 4 line ""`, `0 0 4 line ""`, `0 1 1 call "f"`, `0 1 2 line ""`, `0 1 2 throw "no"`,
			`0 1 0 back "error"`, `0 0 4 catch "no"`, `returned`, `6 ticks 1 cells`,
		}},
		{"let k = task(fn() {yield()})\nresume(k)\ngiveup(k)", []string{
			`0 0 1 line ""`, `0 0 2 line ""`, `1 0 0 turn "resume"`, `1 1 1 call ""`, `1 1 1 line ""`, `0 0 0 turn "yield"`,
			`0 0 3 line ""`, `1 0 0 turn "giveup"`, `1 1 0 back "gone"`, `0 0 0 turn "gone"`, `returned`, `9 ticks 2 cells`,
		}},
		{"setkind({}, {.last = fn() {throw 1}}); collect()", []string{
			`0 0 1 line ""`, `0 0 1 line ""`, `0 0 0 last ""`, `0 1 1 call ""`, `0 1 1 line ""`, `0 1 1 throw "1"`, `0 1 0 back "error"`,
			`0 0 0 catch "1"`, `returned`, `6 ticks 4 cells`,
		}},
	})
}

// bytesOf are all bytes, with those first that are most likely to go wrong.
func bytesOf() string {
	b := []byte("\"\\\n\t\"\"\\\\\\n\\x41 \x00\x01\x1f\x7e\x7f\x80\xff\xc3\xa4\r'`%")
	for i := range 256 {
		b = append(b, byte(i))
	}
	return string(b)
}

func TestQuotesInTellings(t *testing.T) {
	in := ample()
	in.Args = []string{bytesOf(), "", "\"", "\\", "\n", "\t", "\r\x00\x1f\x7f\x80\xff", " ~", "\xc3\xa4"}
	checkTellings(t, in, []telling{
		{"let a, b, c, d, e, f, g, h, i = ...\nprint(b, c, d, e, f, g, h, i)", []string{
			`0 0 1 line ""`, `0 0 2 line ""`, `0 0 2 print " \" \\ \n \t \x0d\x00\x1f\x7f\x80\xff  ~ \xc3\xa4"`, `returned`, `3 ticks 0 cells`,
		}},
		{"fn f(a, ...) {return ...}\nreturn f(...)", []string{
			`0 0 1 line ""`, `0 0 1 line ""`, `0 0 2 line ""`, `0 1 1 call "f"`, `0 1 1 line ""`, `0 1 0 back ""`,
			`returned "" "\"" "\\" "\n" "\t" "\x0d\x00\x1f\x7f\x80\xff" " ~" "\xc3\xa4"`, `5 ticks 1 cells`,
		}},
		{"let a, b = ...\nthrow b", []string{`0 0 1 line ""`, `0 0 2 line ""`, `0 0 2 throw ""`, `error "" "main:2"`, `2 ticks 0 cells`}},
		{"let a, b, c, d = ...; throw c .. d", []string{
			`0 0 1 line ""`, `0 0 1 line ""`, `0 0 1 throw "\"\\"`, `error "\"\\" "main:1"`, `3 ticks 0 cells`,
		}},
		{"throw \"\\\"\\\\\\n\\t\\x00\\x7f\\xff'\"", []string{
			`0 0 1 line ""`, `0 0 1 throw "\"\\\n\t\x00\x7f\xff'"`, `error "\"\\\n\t\x00\x7f\xff'" "main:1"`, `1 ticks 0 cells`,
		}},
		{"return \"\"", []string{`0 0 1 line ""`, `returned ""`, `1 ticks 0 cells`}},
		{"return \"a b\", \"\\\" \\\"\", \"\\n\"", []string{`0 0 1 line ""`, `returned "a b" "\" \"" "\n"`, `1 ticks 0 cells`}},
	})
	for _, text := range []string{
		"print(...)", "return ...", "throw (...)", "try {throw (...)} catch e {print(e)}",
		"fn f(a) {throw a}\nf(...)", "print(1)\nfor a in read {print(a)}",
	} {
		in.Lines = in.Args
		checkTold(t, text, in)
	}
	for i := range 256 {
		in.Args = []string{string([]byte{byte(i)})}
		checkTold(t, "print(...)\nreturn ...", in)
		checkTold(t, "print(...)\nthrow (...)", in)
	}
}

func TestTellingsOfEnds(t *testing.T) {
	checkTellings(t, ample(), []telling{
		{"", []string{"returned", "0 ticks 0 cells"}},
		{"-- nothing\n\n{}\nconst K = 1", []string{"returned", "0 ticks 0 cells"}},
		{"return", []string{`0 0 1 line ""`, "returned", "1 ticks 0 cells"}},
		{"return nil", []string{`0 0 1 line ""`, `returned "nil"`, "1 ticks 0 cells"}},
		{"return 1", []string{`0 0 1 line ""`, `returned "1"`, "1 ticks 0 cells"}},
		{"return true, -2, 0.5, \"s\", {}, fn() {}, print", []string{
			`0 0 1 line ""`, `returned "true" "-2" "1p-1" "s" "table" "fn" "builtin"`, "1 ticks 2 cells",
		}},
		{"return ..., {...}", []string{`0 0 1 line ""`, `returned "p" "table"`, "1 ticks 3 cells"}},
		// What was told by the time an error left stays told; its value, then its trace.
		{"print(1)\nthrow 2", []string{`0 0 1 line ""`, `0 0 1 print "1"`, `0 0 2 line ""`, `0 0 2 throw "2"`, `error "2" "main:2"`, "3 ticks 0 cells"}},
		{"fn f() {\nlet g = fn() {\nthrow {.code = 77}\n}\ng()\n}\n\nf()", []string{
			`0 0 1 line ""`, `0 0 1 line ""`, `0 0 8 line ""`, `0 1 1 call "f"`, `0 1 2 line ""`, `0 1 5 line ""`, `0 2 2 call ""`, `0 2 3 line ""`,
			`0 2 3 throw "error 77"`, `0 2 0 back "error"`, `0 1 0 back "error"`, `error "error 77" "fn:3 f:5 main:8"`, "8 ticks 4 cells",
		}},
		{"throw", []string{"1:6 cannot stand"}},
		{"throw nil", []string{`0 0 1 line ""`, `0 0 1 throw "nil"`, `error "nil" "main:1"`, "1 ticks 0 cells"}},
		{"let x = 1 .. {}", []string{`0 0 1 line ""`, `0 0 1 throw "error 1"`, `error "error 1" "main:1"`, "2 ticks 1 cells"}},
		// An error that takes the place of a return leaves no value to tell.
		{"defer (nil)()\nreturn 5", []string{`0 0 1 line ""`, `0 0 2 line ""`, `0 0 1 throw "error 6"`, `error "error 6" "main:1"`, "3 ticks 0 cells"}},
	})
}

func TestTellingsWithoutTicks(t *testing.T) {
	in := impl.Input{Args: []string{"x"}, Depth: 1, Cells: 3}
	checkTellings(t, in, []telling{
		{"", []string{"returned", "0 ticks 0 cells"}},
		{"print(1)", []string{"no more ticks", "0 ticks 0 cells"}},
		{"return ...", []string{"no more ticks", "0 ticks 0 cells"}},
		{"throw 1", []string{"no more ticks", "0 ticks 0 cells"}},
	})
	in.Ticks = 1
	checkTellings(t, in, []telling{
		{"return ...", []string{`0 0 1 line ""`, `returned "x"`, "1 ticks 0 cells"}},
		{"throw 1", []string{`0 0 1 line ""`, `0 0 1 throw "1"`, `error "1" "main:1"`, "1 ticks 0 cells"}},
		{"let t = {1, 2}", []string{`0 0 1 line ""`, "returned", "1 ticks 3 cells"}},
		{"let t = {1, 2}; return t", []string{`0 0 1 line ""`, "no more ticks", "1 ticks 3 cells"}},
		{"let t = {1, 2, 3}", []string{`0 0 1 line ""`, `0 0 1 throw "error 9"`, `error "error 9" "main:1"`, "1 ticks 3 cells"}},
		{"print(1)", []string{`0 0 1 line ""`, "no more ticks", "1 ticks 0 cells"}},
	})
	in.Ticks = 2
	checkTellings(t, in, []telling{
		{"print(...)", []string{`0 0 1 line ""`, `0 0 1 print "x"`, "returned", "2 ticks 0 cells"}},
		{"while true {}", []string{`0 0 1 line ""`, "no more ticks", "2 ticks 0 cells"}},
		{"defer print(1)\nthrow 2", []string{`0 0 1 line ""`, `0 0 2 line ""`, `0 0 2 throw "2"`, "no more ticks", "2 ticks 0 cells"}},
	})
}

// Each of what Answer gives to a run is used up to the last one, and then by one more.
func TestAnswersInput(t *testing.T) {
	for text, want := range map[string]string{
		"let a, b, c = ...; return c, b, a": `returned "nil" "b" "a"`,
		"return ...":                        `returned "a" "b"`,
		"let t = {...}; return #t, t[2]":    `returned "2" "b"`,
		"return read(), read()":             `returned "one" "two"`,
		"return read(), read(), read()":     `returned "one" "two" "nil"`,
		"for i = 1, 1999 {}":                "returned",
		"for i = 1, 2000 {}":                "no more ticks",
		"for i = 1, 1998 {}; return 1":      `returned "1"`,
		"for i = 1, 1999 {}; return 1":      "no more ticks",
		"fn f(n) {if n > 1 {return f(n - 1)}; return \"deep\"}; return f(39)": `returned "deep"`,
		"for i = 1, 400 {let t = {1, 2, 3, 4}}":                               "returned",
		"for i = 1, 400 {let t = {1, 2, 3, 4}}; return 1":                     `returned "1"`,
		"for i = 1, 400 {let t = {1, 2, 3, 4}}; return {}":                    `error "error 9" "main:1"`,
		"for i = 1, 401 {let t = {1, 2, 3, 4}}":                               `error "error 9" "main:1"`,
		"fn f(n) {if n > 1 {return f(n - 1)}; return \"deep\"}; return f(40)": `error "error 8" "` + strings.Repeat("f:1 ", 39) + `main:1"`,
	} {
		got := impl.Answer(text)
		lines := strings.Split(got, "\n")
		if len(lines) < 3 || lines[len(lines)-3] != want {
			t.Errorf("%s\nends with %q, not %s", text, lines[max(0, len(lines)-3):], want)
		}
		if other := strings.Join(linesToTell(text, answersInput()), "\n") + "\n"; got != other {
			t.Errorf("%s\nis not told as with its input", text)
		}
	}
	for text, want := range map[string]string{
		"for i = 1, 1999 {}":                               "2000 ticks 0 cells\n",
		"for i = 1, 2000 {}":                               "2000 ticks 0 cells\n",
		"for i = 1, 400 {let t = {1, 2, 3, 4}}":            "801 ticks 2000 cells\n",
		"for i = 1, 400 {let t = {1, 2, 3, 4}}; return {}": "802 ticks 2000 cells\n",
	} {
		if got := impl.Answer(text); !strings.HasSuffix(got, "\n"+want) {
			t.Errorf("%s\nends with %q", text, got[max(0, len(got)-40):])
		}
	}
}

// answersInput is the one that Answer has for each text.
func answersInput() impl.Input {
	return impl.Input{Args: []string{"a", "b"}, Lines: []string{"one", "two"}, Ticks: 2000, Depth: 40, Cells: 2000}
}

// A changed input would be told by at least one of some texts.
func TestAnswersInputIsNoOther(t *testing.T) {
	texts := []string{
		"return ...", "return read(), read(), read()", "for i = 1, 1999 {}", "for i = 1, 2000 {}",
		"fn f(n) {if n > 1 {f(n - 1)}}; f(39)", "fn f(n) {if n > 1 {f(n - 1)}}; f(40)",
		"for i = 1, 400 {let t = {1, 2, 3, 4}}", "for i = 1, 400 {let t = {1, 2, 3, 4}}; let t = {}",
	}
	for i, change := range []func(in *impl.Input){
		func(in *impl.Input) { in.Args = in.Args[:1] },
		func(in *impl.Input) { in.Args = append(in.Args, "") },
		func(in *impl.Input) { in.Args[0], in.Args[1] = "b", "a" },
		func(in *impl.Input) { in.Lines = in.Lines[:1] },
		func(in *impl.Input) { in.Lines = append(in.Lines, "three") },
		func(in *impl.Input) { in.Lines[0], in.Lines[1] = "two", "one" },
		func(in *impl.Input) { in.Ticks-- }, func(in *impl.Input) { in.Ticks++ },
		func(in *impl.Input) { in.Depth-- }, func(in *impl.Input) { in.Depth++ },
		func(in *impl.Input) { in.Cells-- }, func(in *impl.Input) { in.Cells++ },
	} {
		in := answersInput()
		change(&in)
		same := true
		for _, text := range texts {
			same = same && impl.Answer(text) == impl.Told(text, in)
		}
		if same {
			t.Errorf("change %d of the input is not told", i)
		}
	}
	for _, text := range append(programs(), texts...) {
		if impl.Answer(text) != impl.Told(text, answersInput()) {
			t.Errorf("%s\nis not answered as it is told", text)
		}
	}
}

// swapped is a text with one byte of its own in the place of another.
func swapped(r *rand.Rand, text string) string {
	b := []byte(text)
	b[r.Intn(len(b))] = b[r.Intn(len(b))]
	return string(b)
}

// Texts of all sorts, most of them wrong somewhere, are told as Check and Run answer.
func TestTellingsOfAnyText(t *testing.T) {
	g := newGrammar()
	r := rand.New(rand.NewSource(5))
	before := runtime.NumGoroutine()
	codes := map[int]int{}
	inputs := append(wrongInputs()[:3], ample(), ample(), answersInput())
	for n := range 1500 {
		text := anyText(r, g, float64(n%3)*0.01)
		if r.Intn(4) == 0 {
			text = text[:r.Intn(len(text)+1)]
		}
		if r.Intn(2) == 0 {
			text = swapped(r, pick(r, programs()))
		}
		codes[impl.Check(text).Code]++
		checkTold(t, text, inputs[r.Intn(len(inputs))])
		if got, want := impl.Answer(text), strings.Join(linesToTell(text, answersInput()), "\n")+"\n"; got != want {
			t.Fatalf("%q\nis answered by %q, not %q", text, got, want)
		}
	}
	t.Log(codes)
	if !settled(before) {
		t.Error("there are goroutines left")
	}
}
