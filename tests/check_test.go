package tests

import (
	"strings"
	"testing"

	"loop.example/mill/impl"
)

// wrong is the answer for a code at a place, its line and column counted anew.
func wrong(text string, code, at int) impl.Checked {
	line, column := 1, 1
	for i := range at {
		column++
		if text[i] == '\n' {
			line++
			column = 1
		}
	}
	return impl.Checked{Code: code, At: at, Line: line, Column: column}
}

func TestTextsThatCanRun(t *testing.T) {
	for _, text := range []string{
		"",
		"\n\n;;\n",
		"-- only a remark",
		"--",
		"let x",
		"let x, y = 1, 2; x, y = y, x",
		"let t = {}\nt.a = 1\nt[\"b\"] = t.a\nt.f = print\nt.f(t.b)",
		"let x = 1 +\n2\nprint(\nx\n)",
		"print\n(1)",
		"let x\nx\n=\n1",
		"if true\n{\nprint(1)\n} elif\nfalse\n{} else\n{}",
		"while\nfalse {}\nfor\ni\n=\n1\n,\n2 {}\nfor k\n,\nv in\n{} {}",
		"try\n{}\ncatch\ne\n,\nt\n{}",
		"fn\nf\n(\na\n,\n...\n)\n{\nreturn\n}\nf()",
		"let t = {\n1,\n[2]\n=\n3,\n.a\n=\n4\n,\n}",
		"return 1, 2, ...",
		"return\nprint()",
		"defer print(1); print(2)",
		"{ let x = 1 }; { let x = 2 }",
		"let f = fn(...) { return (...) }",
		"throw nil",
		"let print = 1; print = 2",
		"fn print() {}; print = nil",
		"const K = 1; { let K = 2; K = 3 }",
		"let K; { const K = 1 }; K = 2",
		"for print = 1, 2 { print = 3 }",
		"for a, print in {} { print = a }",
		"try {} catch print, a { print = a }",
		"fn f(print) { print = 1 }",
		"let _ = 1; try {} catch e { print(_) }",
		"while true { if false { break } else { { next } } }",
		"while true { try { break } catch e { next } }",
		"const A = 1; const B = A + 1; const C = B .. A; print(C)",
		"const K = 1; fn f() { return fn() { return K } }",
		"const K = 1; const K = K + 1; print(K)",
		"let x = 1; let x = x; print(x)",
		"let a, a = 1, 2; a = 3",
		"const P = print; P(1)",
		"const K = 1; print(K.x, K[1]); K.x = 2; print.y = 3",
		"let x = 1and 2or 3",
		"let x = 0x1or 2",
		"let x = 1..2 ..3",
		"let x = - - 1",
		"let x = \"--\" -- \"",
	} {
		if got := impl.Check(text); got != (impl.Checked{}) {
			t.Errorf("%q: %v", text, got)
		}
	}
}

// In these texts the fault is where the bar stands, which is no byte of the text.
func TestPlacesOfFaultsInTheForm(t *testing.T) {
	for _, marked := range []string{
		// texts that end too early
		"let ¦", "let x = ¦", "let x = 1 +¦", "f¦", "f(¦", "f(1¦", "f(1,¦", "f.¦", "(f¦", "(f)¦", "f[1]¦", "a, b¦",
		"if¦", "if a¦", "if a {¦", "if a {} el¦", "if a {} elif¦", "while a¦", "for¦", "for a¦", "for a =¦",
		"for a = 1,¦", "for a, b¦", "for a i¦", "for a in¦", "fn¦", "fn f¦", "fn f(¦", "fn f(a,¦", "fn f(..¦",
		"fn f(...¦", "try {}¦", "try {} cat¦", "try {} catch¦", "try {} catch e¦", "throw¦", "defer¦", "defer f¦",
		"const¦", "const K¦", "const K =¦", "{¦", "x = {¦", "x = {1¦", "x = {[1¦", "x = {.a¦", "x = 0x¦", "x = 1e¦",
		"x = 1.¦", "x = 1e+¦", "x = \"¦", "x = \"\\¦", "x = \"\\x¦", "x = \"\\x1¦", "x = \"a¦", "x = ..¦", "let -¦", "x = not¦",
		"let x = 1 -¦", "x = a.b.¦",
		// bytes that no token begins with
		"¦$", "¦!", "¦@x", "f()¦?", "x = ¦`", "x = a ¦^ b", "¦\x00", "¦\x80", "f() ¦\xff", "¦\x0b", "¦\x0c", "¦'", "¦:", "¦\\",
		"x = 1 ¦!= 2",
		// tokens that cannot go on
		"x = 0x¦g", "x = 0x¦A", "x = 0x0123456789abcdef¦0", "x = 0x0123456789abcdef¦and 1", "x = 1e¦x", "x = 1e+¦+", "x = 1.5e-¦ ",
		"x = \"a¦\nb\"", "x = \"\\¦q\"", "x = \"\\x¦G0\"", "x = \"\\x0¦G\"", "x = \"\\x¦A0\"",
		"x = 0¦1", "x = 0¦0", "x = 1¦x", "x = 1.5.¦5", "x = 1e5.¦5", "x = 1.¦x", "x = 0¦X1", "x = 1e5¦e", "x = 0x1f.¦1",
		// tokens that cannot stand there
		"¦1", "¦)", "¦}", "¦]", "¦,", "¦=", "¦\"a\"", "¦+", "-¦", "-¦x", "-¦ -", "¦...", "f() ¦g()", "f()¦}", "let x =¦= 1",
		"let ¦1", "let x, ¦1", "let x¦.y = 1", "let x = 1 ¦2", "x = ~¦= 1", "x = ¦= 1", "x = .¦5", "x = ..¦5",
		"f(a =¦ 1)", "f(¦,)", "f(1, ¦)", "f(1 ¦;)", "f(1 ¦{})", "x = {¦,}", "x = {1 ¦2}", "x = {1, ¦, 2}", "x = {¦;}", "x = {a =¦ 1}",
		"x = {.a ¦, 1}", "x = {[1]¦}", "x = {[1] =¦= 1}", "x = a..¦.", "x = a ..¦. b", "x = 1..¦.", "x = a.¦1", "x = a. ¦1",
		"(a) ¦= 1", "(a.b) ¦= 1", "a, (b) ¦= 1", "f() ¦= 1", "a, f() ¦= 1", "a, f()¦", "a, f() ¦; g()", "a¦;", "f ¦x", "a.b ¦;", "(f)¦;",
		"x = \"a\".¦b", "x = {}.¦b", "x = fn() {}¦()", "x = 1 ¦(2)", "x = nil ¦[1]", "x = ... ¦(1)",
		"for a¦.b", "for a ¦; b", "for a, b ¦= 1, 2 {}", "for a = 1 ¦{}", "for a = 1, 2, 3¦, 4 {}", "for a, b in 1¦, 2 {}",
		"for ¦1", "fn f(... ¦, a)", "fn f(a ¦b)", "fn f(a,¦)", "fn ¦(a) {}", "fn f¦.g() {}", "try ¦f()", "try {} ¦{}", "try {} catch ¦{}",
		"try {} catch a, b¦, c {}", "defer (f)¦", "defer f ¦= 1", "defer ¦{}", "{} ¦{}", "if a {} else ¦if b {}",
		"return ¦]", "const K¦, L = 1", "const K ¦; = 1", "break ¦1", "next¦()",
		// words that could go on, and words that are too long
		"let let¦", "let let¦ x", "let if¦ = 1", "x = let¦", "x = if¦(", "else¦ {}", "f.and¦ = 1", "x = a an¦", "x = a an¦ b", "x = a an¦x b", "x = a and¦y b",
		"x = 1 o¦", "x = 1 ¦not", "x = 1 ¦in", "for a in¦k b {}", "for a ¦of b {}", "if a {} el¦", "if a {} els¦ {}", "if a {} else¦x", "try {} catch¦es {}", "try {} ca¦sh",
		"fn while¦() {}", "let x = 1 a¦ = 2", "x = catch¦", "x = elif¦ ",
		// newlines that separate, and those that do not
		"if a {}\nelse¦ {}", "if a {}\nelif¦ b {}", "let x\n¦= 1", "let x\n¦, y", "x = 1\n¦+ 2", "x = 1\n-¦ 2", "x = 1\n¦, 2", "f()\n¦.x = 1", "f()\n¦[1] = 2",
		"return\n¦1", "return 1\n¦, 2", "throw a\n¦.b", "x = f\n¦.y", "fn f() {}\n¦, 1", "f\n¦g", "a, f()\n¦g()", "for a\n¦b", "try {}\n\n¦f()",
		"defer f\n¦g()", "x = {1\n¦2}", "f(a\n¦b)", "f(fn() { g()\n¦.x })", "const K = 1\nor¦ 2",
	} {
		at := strings.Index(marked, "¦")
		text := strings.Replace(marked, "¦", "", 1)
		if strings.Contains(text, "¦") {
			t.Errorf("%q has two bars", marked)
			continue
		}
		if got := impl.Check(text); got != wrong(text, 1, at) {
			t.Errorf("%q: %v", marked, got)
		}
		if got := impl.Check(text[:at]); got.Code == 1 && got.At != at {
			t.Errorf("%q up to the bar: %v", marked, got)
		}
		if at == len(text) {
			continue
		}
		for _, behind := range []string{"", " ", "x", "\n", ")", "}", "\"", " = 1", ".", "0", "()", " {}", "=", "-- a"} {
			longer := text[:at+1] + behind
			if got := impl.Check(longer); got != wrong(longer, 1, at) {
				t.Errorf("%q with %q behind the bar: %v", marked, behind, got)
			}
		}
	}
}

func TestPlacesOfWrongNames(t *testing.T) {
	for _, c := range []struct {
		code   int
		marked string
	}{
		{3, "¦x()"}, {3, "¦x = 1"}, {3, "let x = ¦x"}, {3, "const K = ¦K"}, {3, "print(1)\n\n  print( ¦y )"},
		{3, "print(¦f); fn f() {}"}, {3, "fn f() { return ¦g }; fn g() {}"}, {3, "let f = fn() { return ¦f }"},
		{3, "for i = ¦i, 1 {}"}, {3, "for i = 1, ¦i {}"}, {3, "for k in ¦k {}"}, {3, "for i = 1, 2 {}\nprint(¦i)"},
		{3, "try { print(¦e) } catch e {}"}, {3, "try {} catch e {}\n¦e()"}, {3, "try {} catch e { print(¦_) }"},
		{3, "if true { let a } else { ¦a() }"}, {3, "while ¦a { let a }"}, {3, "fn f(a) {}; print(¦a)"},
		{3, "¦prin(1)"}, {3, "print({¦a.b})"}, {3, "print({.a = ¦a})"}, {3, "print(print.a[¦a])"},
		{3, "let a, b = 1, ¦b"}, {3, "{ const K = 1 }\nprint(¦K)"}, {3, "return fn(a) { return ¦A }"}, {3, "¦Print()"},
		{4, "¦print = 1"}, {4, "const K = 1\nlet a\na, ¦K = 1, 2"}, {4, "const K = 1; fn f() {¦K = 2}"},
		{4, "¦cells, print = 1"}, {4, "let a = 1\nconst a = 2\n¦a = 3"}, {4, "let a; a.b, ¦read, x = 1"},
		{5, "¦break"}, {5, "¦next"}, {5, "if true {\n\t¦next\n}"}, {5, "while true {}\n¦break"},
		{5, "for i = 1, 2 { let f = fn() { ¦break } }"}, {5, "while fn() { ¦break } {}"}, {5, "for a in fn() { ¦next } {}"},
		{5, "for a = 1, fn() { ¦next } {}"}, {5, "for i = 1, 2 { fn f() { while true { break }; ¦break } }"},
		{6, "fn f() { return ¦... }"}, {6, "print(..., fn(a) { return (¦...) })"}, {6, "fn f(...) { fn g() { f(¦...) } }"},
		{6, "let f = fn() { return {1, ¦...} }"},
		{7, "¦const K = print()"}, {7, "let x\n¦const K = x"}, {7, "print(1); ¦const K = {}"}, {7, "const A = 1; { ¦const B = A % 0 }"},
		{7, "¦const K = ..."}, {7, "¦const K = (...)"}, {7, "¦const K = fn() {}"}, {7, "¦const K = print.a"}, {7, "¦const K = print[1]"},
		{7, "fn f(a) {\n  ¦const K = a\n}"}, {7, "const P = print; ¦const Q = P(1)"},
		// the least part counts, and a part stands behind those below it
		{3, "print(¦a, b)"}, {3, "const K = ¦a + print()"}, {3, "const K = fn() { ¦zz() }"}, {5, "const K = fn() { ¦break }"},
		{6, "const K = fn() { return ¦... }"}, {7, "¦const K = print(); break; zz()"}, {5, "¦break; zz()"},
		{4, "¦print = zz"}, {3, "¦zz, print = 1"}, {3, "print.a[¦zz], print = 1"}, {6, "fn f() { print(¦...); break }"},
		{7, "¦const A = 1 // 0; const B = A; B = 1"}, {3, "while ¦zz { fn f() { break } }"},
		{4, "const K = 1; fn f() { ¦K = ... }"}, {3, "if true { print(¦a) }; break"},
		{7, "{ ¦const A = nil + 1 }; print = 1"}, {3, "for zz in {} {}; ¦zz()"},
	} {
		at := strings.Index(c.marked, "¦")
		text := strings.Replace(c.marked, "¦", "", 1)
		if got := impl.Check(text); got != wrong(text, c.code, at) {
			t.Errorf("%q: %v", c.marked, got)
		}
	}
}

func TestAllBuiltins(t *testing.T) {
	for _, name := range strings.Fields("print read type text setkind kind rawget rawset task resume yield status giveup collect cells") {
		if got := impl.Check(name + "()"); got.Code != 0 {
			t.Errorf("%s: %v", name, got)
		}
		if got := impl.Check(name + " = 1"); got != wrong("", 4, 0) {
			t.Errorf("%s: %v", name, got)
		}
		if got := impl.Check(name + "s()"); got != wrong("", 3, 0) {
			t.Errorf("%s: %v", name, got)
		}
	}
}
