package tests

import (
	"strconv"
	"strings"
	"testing"

	"loop.example/mill/impl"
)

// list writes n elements; each # in the piece is the element's number.
func list(n int, piece, between string) string {
	var out []string
	for i := range n {
		out = append(out, strings.ReplaceAll(piece, "#", strconv.Itoa(i)))
	}
	return strings.Join(out, between)
}

func nested(n int, open, inner, end string) string {
	return strings.Repeat(open, n) + inner + strings.Repeat(end, n)
}

// A limit is asked of the tree ahead of the names, or of the unit behind them: zz, which is no name, tells which.
const (
	ofTree = iota
	ofUnit
)

type limit struct {
	what  string
	of    int
	most  int // the greatest number that is accepted
	write func(n int) string
}

func checkLimits(t *testing.T, limits []limit) {
	t.Helper()
	for _, l := range limits {
		at, past := l.write(l.most), l.write(l.most+1)
		if got := impl.Check(at); got.Code != 0 {
			t.Errorf("%s, %d: %v", l.what, l.most, got)
		}
		if got := impl.Check(past); got != (impl.Checked{Code: 2}) {
			t.Errorf("%s, %d: %v", l.what, l.most+1, got)
		}
		if got := impl.Check(past + "\n%"); got.Code != 1 {
			t.Errorf("%s, %d, a wrong form behind it: %v", l.what, l.most+1, got)
		}
		if l.what == "statements" {
			continue // with a statement more there would be too many
		}
		want := 2
		if l.of == ofUnit {
			want = 3
		}
		if got := impl.Check(past + "\nzz()"); got.Code != want {
			t.Errorf("%s, %d, a wrong name behind it: %v", l.what, l.most+1, got)
		}
		if got := impl.Check(at + "\nzz()"); got.Code != 3 {
			t.Errorf("%s, %d, a wrong name behind it: %v", l.what, l.most, got)
		}
		tidy := impl.Tidied(past)
		if l.of == ofTree && tidy != "" || l.of == ofUnit && tidy == "" {
			t.Errorf("%s, %d: tidied to %.40q", l.what, l.most+1, tidy)
		}
		if impl.Tidied(at) == "" {
			t.Errorf("%s, %d: not tidied", l.what, l.most)
		}
	}
}

func TestBytesOfAText(t *testing.T) {
	for _, c := range []struct {
		text string
		want impl.Checked
	}{
		{strings.Repeat("\n", 65536), impl.Checked{}},
		{strings.Repeat("\n", 65537), impl.Checked{Code: 2}},
		{"--" + strings.Repeat("$", 65534), impl.Checked{}},
		{"--" + strings.Repeat("$", 65535), impl.Checked{Code: 2}},
		{strings.Repeat("$", 65537), impl.Checked{Code: 2}},
		{strings.Repeat("\n", 65535) + "$", impl.Checked{Code: 1, At: 65535, Line: 65536, Column: 1}},
		{strings.Repeat(" ", 65533) + "f()", impl.Checked{Code: 3, At: 65533, Line: 1, Column: 65534}},
		{strings.Repeat(" ", 65534) + "f()", impl.Checked{Code: 2}},
		{"x" + strings.Repeat(" ", 65535), impl.Checked{Code: 1, At: 65536, Line: 1, Column: 65537}},
	} {
		if got := impl.Check(c.text); got != c.want {
			t.Errorf("%.20q, %d bytes: %v", c.text, len(c.text), got)
		}
	}
}

func TestPartsOfATree(t *testing.T) {
	// a let of 200 values has 201 parts, and the text is one of its own
	full := strings.Repeat("let a = "+list(200, "1", ",")+"\n", 14)
	exact := full + "let b = " + list(184, "1", ",")
	if got := impl.Check(exact); got.Code != 0 {
		t.Errorf("3000 parts: %v", got)
	}
	if got := impl.Check(exact + ", 1"); got.Code != 2 {
		t.Errorf("3001 parts: %v", got)
	}
	if got := impl.Check("zz = 1\n" + exact); got.Code != 2 {
		t.Errorf("3003 parts and a wrong name: %v", got)
	}
	if got := impl.Check(exact + ", 1 2"); got.Code != 1 {
		t.Errorf("3001 parts and a wrong form: %v", got)
	}
	// consts are parts, but no nodes
	consts := full + "let b = " + list(180, "1", ",") + "\nconst K = 1 + "
	if got := impl.Check(consts + "1"); got.Code != 0 || impl.Tidied(consts+"1") == "" {
		t.Errorf("3000 parts with a const: %v", got)
	}
	if got := impl.Check(consts + "-1"); got.Code != 2 || impl.Tidied(consts+"-1") != "" {
		t.Errorf("3001 parts with a const: %v", got)
	}
}

func TestDepthOfATree(t *testing.T) {
	checkLimits(t, []limit{
		{"prefixes", ofTree, 98, func(n int) string { return "let x = " + strings.Repeat("- ", n) + "1" }},
		{"blocks", ofTree, 97, func(n int) string { return nested(n, "{", "print()", "}") }},
		{"empty blocks", ofTree, 100, func(n int) string { return nested(n, "{", "", "}") }},
		{"sums", ofTree, 98, func(n int) string { return "let x = " + strings.Repeat("1 + ", n) + "1" }},
		{"joins", ofTree, 98, func(n int) string { return "let x = " + strings.Repeat("1 .. ", n) + "1" }},
		{"calls of calls", ofTree, 98, func(n int) string { return "print" + strings.Repeat("()", n) }},
		{"calls in calls", ofTree, 98, func(n int) string { return nested(n, "print(", "1", ")") }},
		{"fields", ofTree, 98, func(n int) string { return "let x = print" + strings.Repeat(".a", n) }},
		{"tables", ofTree, 49, func(n int) string { return "let x = " + nested(n, "{", "1", "}") }},
		{"empty tables", ofTree, 50, func(n int) string { return "let x = " + nested(n, "{", "", "}") }},
		{"fns", ofTree, 33, func(n int) string { return "let x = " + nested(n-1, "fn() { return ", "fn() {}", "}") }},
		{"elifs", ofTree, 98, func(n int) string { return "if 1 {}" + strings.Repeat(" elif 1 {}", n) }},
		{"further arguments alone", ofTree, 97, func(n int) string { return "let x = " + strings.Repeat("- ", n) + "((...))" }},
	})
	parens := "let x = " + nested(20000, "(", "1", ")")
	if got := impl.Check(parens); got.Code != 0 || impl.Tidied(parens) != "let x = 1\n" {
		t.Errorf("parentheses: %v", got)
	}
	deep := "let x = " + nested(30000, "{", "", "}")
	if got := impl.Check(deep); got.Code != 2 {
		t.Errorf("deep tables: %v", got)
	}
	if got := impl.Check(strings.Repeat("{", 65536)); got.Code != 1 || got.At != 65536 {
		t.Errorf("open blocks: %v", got)
	}
	if got := impl.Check("x=" + strings.Repeat("f(", 32767)); got.Code != 1 || got.At != 65536 {
		t.Errorf("open calls: %v", got)
	}
}

func TestKidsOfAPart(t *testing.T) {
	checkLimits(t, []limit{
		{"statements", ofTree, 200, func(n int) string { return list(n, "print()", "\n") }},
		{"statements of a block", ofTree, 200, func(n int) string { return "{" + list(n, "print()", ";") + "}" }},
		{"names of a let", ofTree, 200, func(n int) string { return "let " + list(n, "a#", ",") }},
		{"values of a let", ofTree, 200, func(n int) string { return "let a = " + list(n, "1", ",") }},
		{"values of a return", ofTree, 200, func(n int) string { return "{return " + list(n, "1", ",") + "}" }},
		{"arguments", ofTree, 199, func(n int) string { return "print(" + list(n, "1", ",") + ")" }},
		{"targets and values", ofTree, 199, func(n int) string { return "let a; " + list(n, "a", ",") + " = 1" }},
		{"values and targets", ofTree, 198, func(n int) string { return "let a; a, a = " + list(n, "1", ",") }},
		{"parameters", ofTree, 200, func(n int) string { return "print(fn(" + list(n, "a#", ",") + ") {})" }},
		{"names of a for", ofUnit, 4, func(n int) string { return "for " + list(n, "a#", ",") + " in {} {}" }},
		{"entries", ofUnit, 100, func(n int) string { return "let t = {" + list(n, "1", ",") + "}" }},
		{"pairs", ofUnit, 100, func(n int) string { return "let t = {" + list(n, "[#] = 1", ",") + "}" }},
		{"named entries", ofUnit, 100, func(n int) string { return "let t = {" + list(n, ".a# = 1", ",") + "}" }},
		{"fns of a block", ofUnit, 100, func(n int) string { return "{" + list(n, "fn f() {}", ";") + "}" }},
	})
	for _, text := range []string{
		"zz({" + list(201, "1", ",") + "})",
		"for " + list(201, "a#", ",") + " in zz {}",
	} {
		if got := impl.Check(text); got.Code != 2 || impl.Tidied(text) != "" {
			t.Errorf("%.30q: %v", text, got)
		}
	}
	if got := impl.Check("zz({" + list(200, "1", ",") + "})"); got.Code != 3 {
		t.Errorf("200 entries: %v", got)
	}
	if got := impl.Check("{" + list(100, "fn f() {}", ";") + ";" + list(100, "const K = 1", ";") + "}"); got.Code != 0 {
		t.Errorf("fns and consts: %v", got)
	}
}

func TestBytesOfNamesAndLiterals(t *testing.T) {
	name := func(n int) string { return strings.Repeat("n", n) }
	checkLimits(t, []limit{
		{"let", ofTree, 40, func(n int) string { return "let a, " + name(n) }},
		{"use", ofTree, 40, func(n int) string { return "let " + name(n) + " = 1; print(" + name(n) + ")" }},
		{"const", ofTree, 40, func(n int) string { return "const " + name(n) + " = 1" }},
		{"fn", ofTree, 40, func(n int) string { return "fn " + name(n) + "() {}" }},
		{"parameter", ofTree, 40, func(n int) string { return "print(fn(a, " + name(n) + ") {})" }},
		{"for", ofTree, 40, func(n int) string { return "for " + name(n) + " = 1, 2 {}" }},
		{"each", ofTree, 40, func(n int) string { return "for a, " + name(n) + " in {} {}" }},
		{"catch", ofTree, 40, func(n int) string { return "try {} catch a, " + name(n) + " {}" }},
		{"field", ofTree, 40, func(n int) string { return "print(print." + name(n) + ")" }},
		{"target", ofTree, 40, func(n int) string { return "print." + name(n) + " = 1" }},
		{"entry", ofTree, 40, func(n int) string { return "print({." + name(n) + " = 1})" }},
		{"string", ofTree, 4000, func(n int) string { return "print(\"" + name(n) + "\")" }},
		{"string of escapes", ofTree, 4000, func(n int) string { return "print(\"" + strings.Repeat("\\x41", n) + "\")" }},
		{"string of a const", ofTree, 4000, func(n int) string { return "const K = \"" + name(n) + "\"" }},
		{"float, fraction", ofTree, 38, func(n int) string { return "print(1." + strings.Repeat("1", n) + ")" }},
		{"float, exponent", ofTree, 36, func(n int) string { return "print(1.5e" + strings.Repeat("0", n) + ")" }},
		{"float, whole", ofTree, 40, func(n int) string { return "print(" + strings.Repeat("9", n) + ")" }},
		{"float of a const", ofTree, 40, func(n int) string { return "const K = " + strings.Repeat("9", n) }},
	})
	if got := impl.Check(name(41) + "()"); got.Code != 2 {
		t.Errorf("a name that is nothing, of 41 bytes: %v", got)
	}
	if got := impl.Check(name(40) + "()"); got.Code != 3 {
		t.Errorf("a name that is nothing, of 40 bytes: %v", got)
	}
	if got := impl.Check("x = " + name(41) + "\n("); got.Code != 1 {
		t.Errorf("a long name ahead of a wrong form: %v", got)
	}
}

func TestSizeOfAUnit(t *testing.T) {
	vars := func(n int) string { return "let " + list(n, "a#", ",") + "\n" }
	checkLimits(t, []limit{
		{"fns", ofUnit, 299, func(n int) string {
			return "let f = " + list(150, "fn() {}", ",") + "\nlet g = " + list(n-150, "fn() {}", ",")
		}},
		{"fns by name", ofUnit, 299, func(n int) string {
			return list(3, "fn f() {"+list(95, "fn f() {}", ";")+"}", "\n") + "\n{" + list(n-288, "fn f() {}", ";") + "}"
		}},
		{"variables", ofUnit, 200, func(n int) string { return vars(150) + vars(n-150) }},
		{"variables of blocks", ofUnit, 200, func(n int) string { return "{" + vars(150) + "}\n{" + vars(n-150) + "}" }},
		{"variables and fns", ofUnit, 200, func(n int) string { return vars(n-2) + "fn f() {}\nfn f() {}" }},
		{"variables and loops", ofUnit, 200, func(n int) string { return vars(n-3) + "for i = 1, 2 {}\nfor k, v in {} {}" }},
		{"variables and a try", ofUnit, 200, func(n int) string { return vars(n-4) + "try {} catch e {}\ntry {} catch e, t {}" }},
		{"variables of a fn", ofUnit, 200, func(n int) string { return vars(200) + "print(fn(p, q) {" + vars(n-2) + "})" }},
		{"variables around", ofUnit, 200, func(n int) string {
			return vars(199) + "fn f() {\nlet " + list(n-199, "b#", ",") + "\nreturn fn() { return " + list(199, "a#", ",") + " + " + list(n-199, "b#", "+") + " }\n}"
		}},
	})
	consts := vars(200) + list(150, "const K# = #", "\n")
	if got := impl.Check(consts); got.Code != 0 {
		t.Errorf("consts are no variables: %v", got)
	}
	twice := vars(199) + "fn f() { return fn() { return " + list(199, "a# + a#", ",") + " } }"
	if got := impl.Check(twice); got.Code != 0 {
		t.Errorf("a variable around counts once: %v", got)
	}
}

func TestNodesOfAUnit(t *testing.T) {
	// a field is one part and two nodes: a let of 100 fields has 201 parts and 301 nodes
	fields := strings.Repeat("let a = "+list(100, "print.a", ",")+"\n", 9)
	checkLimits(t, []limit{
		// the text's node, 9 lets, a let of n ints, and room for what tells the order of the faults
		{"nodes", ofUnit, 3000 - 1 - 9*301 - 200 - 1, func(n int) string {
			return fields + "let b = " + list(199, "1", ",") + "\nlet c = " + list(n, "1", ",")
		}},
	})
	// a step that is not written is a node all the same, a fn by name has four
	steps := fields + "let b = " + list(199, "1", ",")
	for n := 84; n <= 85; n++ {
		text := steps + "\nfor i = 1, 2 {}\nlet c = " + list(n, "1", ",")
		if got, want := impl.Check(text).Code, (n-84)*2; got != want {
			t.Errorf("a step, %d: %v", n, got)
		}
		text = steps + "\nfn f() {}\nlet c = " + list(n, "1", ",")
		if got, want := impl.Check(text).Code, (n-84)*2; got != want {
			t.Errorf("a fn, %d: %v", n, got)
		}
	}
	// a const's expression makes no nodes
	text := steps + "\nlet c = " + list(90, "1", ",")
	if got := impl.Check(text + "\nconst K = 1 + 2 * 3"); got.Code != 2 {
		t.Errorf("too many nodes: %v", got)
	}
	text = steps + "\nlet c = " + list(89, "1", ",")
	if got := impl.Check(text + "\nconst K = 1 + 2 * 3"); got.Code != 0 {
		t.Errorf("consts make no nodes: %v", got)
	}
}
