package tests

import (
	"math/rand"
	"strings"
	"testing"

	"loop.example/mill/impl"
)

func TestTidiedOfOrdinaryTexts(t *testing.T) {
	for _, c := range []struct{ text, want string }{
		{"", ""},
		{" ;;\n; -- nothing", ""},
		{"f()", "f()\n"},
		{"f();g()\n\nh();", "f()\ng()\nh()\n"},
		{"let a", "let a\n"},
		{"let a,b=1,2", "let a, b = 1, 2\n"},
		{"const K=-1", "const K = -1\n"},
		{"fn f(){}", "fn f() {}\n"},
		{"fn f(a,b,...){return}", "fn f(a, b, ...) {\n\treturn\n}\n"},
		{"fn f(...){;;}", "fn f(...) {}\n"},
		{"a,b.c,d[1]=1,2", "a, b.c, d[1] = 1, 2\n"},
		{"while a<b{next}", "while a < b {\n\tnext\n}\n"},
		{"for i=1,2{break}", "for i = 1, 2 {\n\tbreak\n}\n"},
		{"for i=1,2,3{}", "for i = 1, 2, 3 {}\n"},
		{"for k,v in t{}", "for k, v in t {}\n"},
		{"return", "return\n"},
		{"return a,b", "return a, b\n"},
		{"try{f()}catch e{}", "try {\n\tf()\n} catch e {}\n"},
		{"throw{}", "throw {}\n"},
		{"defer f(1)(2)", "defer f(1)(2)\n"},
		{"{{f()}}", "{\n\t{\n\t\tf()\n\t}\n}\n"},
		{"if a{}else{if b{}}", "if a {} else {\n\tif b {}\n}\n"},
		{"if a{}elif b{}elif c{}", "if a {} elif b {} elif c {}\n"},
		{"let f=fn(a){if a{g(fn(){h()})}}", "let f = fn(a) {\n\tif a {\n\t\tg(fn() {\n\t\t\th()\n\t\t})\n\t}\n}\n"},
		{"f(fn(){g()},{fn(){h()}})", "f(fn() {\n\tg()\n}, {fn() {\n\th()\n}})\n"},
		{"f\n(x)\n(g)(y)", "f(x)\ng(y)\n"},
		{"x\n=\n1", "x = 1\n"},
		{"x = a\n(g)(y)", "x = a\ng(y)\n"},
		{"return\nf()", "return\nf()\n"},
	} {
		if got := impl.Tidied(c.text); got != c.want {
			t.Errorf("%q: %q", c.text, got)
		}
		if got := impl.Tidied(c.want); got != c.want {
			t.Errorf("%q is not its own: %q", c.want, got)
		}
	}
}

func TestTidiedExpressions(t *testing.T) {
	for text, want := range map[string]string{
		"1+2*3":                   "1 + 2 * 3",
		"(1+2)*3":                 "(1 + 2) * 3",
		"1-(2-3)":                 "1 - (2 - 3)",
		"(1-2)-3":                 "1 - 2 - 3",
		"a..(b..c)":               "a .. b .. c",
		"(a..b)..c":               "(a .. b) .. c",
		"a==(b<c)":                "a == (b < c)",
		"(a==b)<c":                "a == b < c",
		"a or(b and c)":           "a or b and c",
		"(a or b)and c":           "(a or b) and c",
		"a|b~c&d<<e+f*g":          "a | b ~ c & d << e + f * g",
		"((((((a|b)~c)&d)<<e)))":  "(((a | b) ~ c) & d) << e",
		"a..b==c":                 "a .. b == c",
		"a..(b==c)":               "a .. (b == c)",
		"-(a+b)":                  "-(a + b)",
		"-a+b":                    "-a + b",
		"(-a).b":                  "(-a).b",
		"-a.b":                    "-a.b",
		"-(-a)":                   "- -a",
		"- - -a":                  "- - -a",
		"a- -b":                   "a - -b",
		"-~-a":                    "-~-a",
		"~~a":                     "~~a",
		"not(not a)":              "not not a",
		"not-a":                   "not -a",
		"-not a":                  "-not a",
		"#(a..b)":                 "#(a .. b)",
		"#{}":                     "#{}",
		"(f())":                   "(f())",
		"((f()))":                 "(f())",
		"(...)":                   "(...)",
		"...":                     "...",
		"(f()).a":                 "(f()).a",
		"(f()).a[(f())]":          "(f()).a[(f())]",
		"(f().a)":                 "f().a",
		"(a)(b)":                  "a(b)",
		"(a.b)[c]":                "a.b[c]",
		"({}).a":                  "({}).a",
		"(\"s\").a":               "(\"s\").a",
		"(1)[2]":                  "(1)[2]",
		"(nil)()":                 "(nil)()",
		"(fn(){})()":              "(fn() {})()",
		"(...).a":                 "(...).a",
		"(a+b).c":                 "(a + b).c",
		"f((a),(f()))":            "f(a, (f()))",
		"{(f())}":                 "{(f())}",
		"{f(),}":                  "{f()}",
		"{.a=1,[b]=2,3,...}":      "{.a = 1, [b] = 2, 3, ...}",
		"0x0":                     "0",
		"0x7fffffffffffffff":      "9223372036854775807",
		"0x8000000000000000":      "0x8000000000000000",
		"9223372036854775807":     "9223372036854775807",
		"9223372036854775808":     "9223372036854775808",
		"1.50e+03":                "1.50e+03",
		"0.0":                     "0.0",
		"1e999":                   "1e999",
		"1..2":                    "1 .. 2",
		"1and 2":                  "1 and 2",
		`"a\x41\x0a\x09\n\t\"\\"`: `"aA\n\t\n\t\"\\"`,
		"\"\x7f\x80\xff\x00 ~\"":  `"\x7f\x80\xff\x00 ~"`,
		"nil":                     "nil",
		"true":                    "true",
		"false":                   "false",
	} {
		if got := impl.Tidied("x=" + text); got != "x = "+want+"\n" {
			t.Errorf("%q: %q", text, got)
		}
	}
}

func TestNothingToTidy(t *testing.T) {
	for _, text := range []string{
		"let", "f", "f(", "x = $", "if a {}\nelse {}", "x = \"", "f() g()",
		"let " + strings.Repeat("a", 41),
		"x = \"" + strings.Repeat("a", 4001) + "\"",
		"x = 1e" + strings.Repeat("0", 39),
		"x = 1" + strings.Repeat("0", 40),
		strings.Repeat("f()\n", 201),
		"x = " + strings.Repeat("-\n", 99) + "1",
		strings.Repeat("{", 100) + "f()" + strings.Repeat("}", 100),
		strings.Repeat("{", 70000),
		"x = " + strings.Repeat("{", 70000) + strings.Repeat("}", 70000),
		"if a {}" + strings.Repeat(" elif a {}", 70000),
	} {
		if got := impl.Tidied(text); got != "" {
			t.Errorf("%.40q: %.40q", text, got)
		}
	}
}

// What a text is tidied to hangs on its tree alone: neither wrong names nor a unit that would be too large count.
func TestTidiedAsksForNoNames(t *testing.T) {
	for _, text := range []string{
		"break\n", "print = nowhere\n", "fn f() {\n\treturn ...\n}\n", "const K = f()\n",
		"for a, b, c, d, e in 1 {}\n", "f({" + strings.Repeat("1, ", 199) + "1})\n",
	} {
		if got := impl.Tidied(text); got != text {
			t.Errorf("%.40q: %.40q", text, got)
		}
	}
}

// A tidy text has at most MaxText bytes; what it was made from may have more.
func TestTidiedSize(t *testing.T) {
	piece := "x = \"" + strings.Repeat("a", 3993) + "\"\n" // 4000 bytes
	text := strings.Repeat(piece, 16)
	last := "x = \"" + strings.Repeat("a", 65536-len(text)-7) + "\"\n"
	if got := impl.Tidied(text + last); got != text+last || len(got) != 65536 {
		t.Errorf("%d bytes", len(got))
	}
	if got := impl.Tidied(text + "a" + last); got != "" {
		t.Errorf("%d bytes", len(got))
	}
	if got := impl.Tidied(strings.Repeat("x=\"\x01\"\n", 10) + text); got != strings.Repeat("x = \"\\x01\"\n", 10)+text {
		t.Errorf("%d bytes", len(got))
	}
	if got := impl.Tidied("x=\"" + strings.Repeat("\x01", 4000) + "\";" + text); got != "" {
		t.Errorf("%d bytes", len(got))
	}
	if got := impl.Tidied(strings.Repeat(" \n", 50000) + "f()" + strings.Repeat(" ", 70000)); got != "f()\n" {
		t.Errorf("%.40q", got)
	}
	if got := impl.Tidied(strings.Repeat(" ", 70000) + "f()"); got != "f()\n" {
		t.Errorf("%.40q", got)
	}
	if got := impl.Tidied(strings.Repeat("\n", 99999) + "f()"); got != "f()\n" {
		t.Errorf("%.40q", got)
	}
	if got := impl.Tidied(strings.Repeat("\n", 100000) + "f()"); got != "" {
		t.Errorf("%.40q", got)
	}
	if got := impl.Tidied("x=" + strings.Repeat("(", 1000000) + "a" + strings.Repeat(")", 1000000)); got != "x = a\n" {
		t.Errorf("%.40q", got)
	}
}

// spelling is an expression as it is tidied, and some other way to write it.
type spelling struct {
	tidy, messy string
	power       int  // of an infix
	prefix      int  // 1 for a prefix, 2 for an OpNeg
	base        bool // a suffix may follow without parentheses
	multi       bool // parentheses around it would count
}

type speller struct{ r *rand.Rand }

func (s speller) blank() string {
	return pick(s.r, []string{" ", "  ", "\t", "\r", " \t "})
}

func (s speller) parens(e spelling) string {
	return "(" + s.maybe() + e.messy + s.maybe() + ")"
}

func (s speller) maybe() string {
	if s.r.Intn(2) == 0 {
		return ""
	}
	return s.blank()
}

// operand writes an operand with the parentheses that it has to have, and sometimes with those that it may have.
func (s speller) operand(e spelling, needed bool) (string, string) {
	if needed {
		return "(" + e.tidy + ")", s.parens(e)
	}
	if !e.multi && s.r.Intn(5) == 0 {
		return e.tidy, s.parens(e)
	}
	return e.tidy, e.messy
}

func (s speller) expr(depth int) spelling {
	if depth == 0 {
		return s.simple()
	}
	switch s.r.Intn(8) {
	case 0, 1, 2:
		return s.infix(depth - 1)
	case 3:
		return s.prefix(depth - 1)
	case 4, 5:
		return s.suffix(depth - 1)
	case 6:
		return s.table(depth - 1)
	}
	return s.simple()
}

func (s speller) simple() spelling {
	switch s.r.Intn(4) {
	case 0:
		name := pick(s.r, []string{"a", "b", "_c9"})
		return spelling{tidy: name, messy: name, base: true}
	case 1:
		return spelling{tidy: "...", messy: "...", multi: true}
	case 2:
		return spelling{tidy: "(f())", messy: "(" + s.maybe() + "f()" + s.maybe() + ")", base: true}
	}
	both := [][2]string{{"1", "0x1"}, {"2.50", "2.50"}, {`"x\n"`, `"\x78\x0a"`}, {"nil", "nil"}, {"{}", "{ }"}, {"fn() {}", "fn( ){;}"}}
	one := both[s.r.Intn(len(both))]
	return spelling{tidy: one[0], messy: one[1]}
}

func (s speller) infix(depth int) spelling {
	sets := [][]string{{"or"}, {"and"}, {"==", "~=", "<", "<=", ">", ">="}, {".."}, {"|"}, {"~"}, {"&"}, {"<<", ">>"}, {"+", "-"}, {"*", "/", "//", "%"}}
	power := 1 + s.r.Intn(10)
	sign := pick(s.r, sets[power-1])
	left, right := s.expr(depth), s.expr(depth)
	leftNeeds := left.power > 0 && left.power < power
	rightNeeds := right.power > 0 && right.power <= power
	if sign == ".." {
		leftNeeds = left.power > 0 && left.power <= power
		rightNeeds = right.power > 0 && right.power < power
	}
	lt, lm := s.operand(left, leftNeeds)
	rt, rm := s.operand(right, rightNeeds)
	return spelling{tidy: lt + " " + sign + " " + rt, messy: lm + s.blank() + sign + s.blank() + rm, power: power}
}

func (s speller) prefix(depth int) spelling {
	sign := pick(s.r, []string{"not", "-", "#", "~"})
	of := s.expr(depth)
	tidy, messy := s.operand(of, of.power > 0)
	out := spelling{prefix: 1, messy: sign + s.blank() + messy}
	space := ""
	if sign == "not" || sign == "-" && of.prefix == 2 {
		space = " "
	}
	out.tidy = sign + space + tidy
	if sign == "-" {
		out.prefix = 2
	}
	return out
}

func (s speller) suffix(depth int) spelling {
	of := s.expr(depth)
	if of.multi && !of.base { // parentheses make one value of further arguments
		of = spelling{tidy: "(...)", messy: "(...)", base: true}
	}
	tidy, messy := s.operand(of, !of.base)
	if of.base && of.multi {
		tidy, messy = of.tidy, of.messy
	}
	e := s.expr(depth)
	switch s.r.Intn(3) {
	case 0:
		return spelling{tidy: tidy + ".a", messy: messy + s.maybe() + "." + s.maybe() + "a", base: true}
	case 1:
		return spelling{tidy: tidy + "[" + e.tidy + "]", messy: messy + s.maybe() + "[" + e.messy + s.maybe() + "]", base: true}
	}
	return spelling{tidy: tidy + "(" + e.tidy + ", b)", messy: messy + s.maybe() + "(" + e.messy + s.maybe() + ",b" + s.maybe() + ")", base: true, multi: true}
}

func (s speller) table(depth int) spelling {
	a, b := s.expr(depth), s.expr(depth)
	end := pick(s.r, []string{"", ",", " , "})
	if s.r.Intn(2) == 0 {
		return spelling{tidy: "{[" + a.tidy + "] = " + b.tidy + "}", messy: "{" + s.maybe() + "[" + a.messy + s.maybe() + "]=" + b.messy + end + "}"}
	}
	return spelling{tidy: "{" + a.tidy + ", .k = " + b.tidy + "}", messy: "{" + a.messy + ",.k" + s.maybe() + "=" + b.messy + end + "}"}
}

func TestTidiedOfAnyExpression(t *testing.T) {
	s := speller{rand.New(rand.NewSource(2))}
	for range 20000 {
		e := s.expr(1 + s.r.Intn(4))
		want := "x = " + e.tidy + "\n"
		if got := impl.Tidied("x=" + e.messy); got != want {
			t.Fatalf("%q: %q, not %q", e.messy, got, want)
		}
		if got := impl.Tidied(want); got != want {
			t.Fatalf("%q is not its own: %q", want, got)
		}
	}
}

// derive writes down a row as tokens, with the shortest choices once it is deep.
func derive(r *rand.Rand, g *grammar, row string, depth int) []string {
	choices := g.byRow[row]
	if choices == nil {
		return []string{row}
	}
	if depth <= 0 {
		choices = choices[:1]
	}
	if depth <= 0 && row == "stat" {
		return []string{"break"}
	}
	if depth <= 0 && (row == "expr" || row == "unit") {
		return []string{"NAME"}
	}
	var out []string
	for _, w := range g.rules[choices[r.Intn(len(choices))]].right {
		out = append(out, derive(r, g, w, depth-1)...)
	}
	return out
}

// render writes tokens with blanks and newlines wherever they change nothing.
func render(r *rand.Rand, g *grammar, toks, spelt []string) string {
	var b strings.Builder
	c := newChart(g)
	for i, tok := range toks {
		separates := c.allowed()[";"] == 1
		after := i > 0 && toks[i-1] == ";"
		for range r.Intn(3) {
			b.WriteString(anyBlank(r, !separates || after || tok == ";"))
		}
		if tok == ";" && r.Intn(2) == 0 {
			b.WriteString("\n")
		} else {
			b.WriteString(spelt[i])
		}
		c.feed(tok)
		if i+1 < len(toks) {
			b.WriteString(" ")
		}
	}
	return b.String()
}

func TestTidiedIsOneHoweverBlanksStand(t *testing.T) {
	g := newGrammar()
	r := rand.New(rand.NewSource(3))
	seen := 0
	for range 1500 {
		toks := derive(r, g, "text", 6+r.Intn(10))
		if len(toks) > 120 {
			continue
		}
		var spelt []string
		for _, tok := range toks {
			spelt = append(spelt, anyOf(r, tok))
		}
		plain := strings.Join(spelt, " ")
		want := impl.Tidied(plain)
		if impl.Check(plain).Code == 1 || want == "" && strings.Trim(plain, "; ") != "" {
			t.Fatalf("%q: %v, %q", plain, impl.Check(plain), want)
		}
		if got := impl.Tidied(want); got != want {
			t.Fatalf("%q is not its own: %q", want, got)
		}
		for range 2 {
			text := render(r, g, toks, spelt)
			if got := impl.Tidied(text); got != want {
				t.Fatalf("%q: %q, but %q: %q", plain, want, text, got)
			}
		}
		seen++
	}
	if seen < 500 {
		t.Errorf("only %d texts", seen)
	}
}
