package impl

import (
	"fmt"
	"strings"
	"testing"
)

// told writes a unit down, a line for each fn and each node.
func told(u unit) string {
	var b strings.Builder
	for i, f := range u.fns {
		fmt.Fprintf(&b, "fn %d %q line %d params %d rest %v vars %v ups %v\n", i, f.name, f.line, f.params, f.rest, f.vars, f.ups)
		for k, n := range f.nodes {
			fmt.Fprintf(&b, "%d: %d line %d op %d %d %v %q refs %v kids %v\n", k, n.kind, n.line, n.op, n.num, n.flt, n.str, n.refs, n.kids)
		}
	}
	return b.String()
}

func lines(list ...string) string { return strings.Join(list, "\n") + "\n" }

func TestWhatATreeBecomes(t *testing.T) {
	for _, c := range []struct{ text, want string }{
		{"", lines(
			`fn 0 "main" line 0 params 0 rest true vars [] ups []`,
			`0: 1 line 1 op 0 0 0 "" refs [] kids []`)},
		{"fn f(x, ...) { return x, ... }\nprint(f(2))", lines(
			`fn 0 "main" line 0 params 0 rest true vars [f] ups []`,
			`0: 2 line 1 op 0 0 0 "" refs [0] kids []`,
			`1: 26 line 0 op 0 0 0 "" refs [0] kids []`,
			`2: 36 line 0 op 0 0 0 "" refs [1] kids []`,
			`3: 3 line 1 op 0 1 0 "" refs [] kids [1 2]`,
			`4: 28 line 0 op 0 0 0 "" refs [] kids []`,
			`5: 26 line 0 op 0 0 0 "" refs [0] kids []`,
			`6: 23 line 0 op 0 2 0 "" refs [] kids []`,
			`7: 34 line 0 op 0 0 0 "" refs [] kids [5 6]`,
			`8: 34 line 0 op 0 0 0 "" refs [] kids [4 7]`,
			`9: 4 line 2 op 0 0 0 "" refs [] kids [8]`,
			`10: 1 line 1 op 0 0 0 "" refs [] kids [0 3 9]`,
			`fn 1 "f" line 1 params 1 rest true vars [x] ups []`,
			`0: 26 line 0 op 0 0 0 "" refs [0] kids []`,
			`1: 37 line 0 op 0 0 0 "" refs [] kids []`,
			`2: 11 line 1 op 0 0 0 "" refs [] kids [0 1]`,
			`3: 1 line 1 op 0 0 0 "" refs [] kids [2]`)},
		{"let a, b\nfn f\n() {\nlet c\nreturn fn() { return b, c, a, b } }", lines(
			`fn 0 "main" line 0 params 0 rest true vars [a b f] ups []`,
			`0: 2 line 1 op 0 0 0 "" refs [0 1] kids []`,
			`1: 2 line 2 op 0 0 0 "" refs [2] kids []`,
			`2: 26 line 0 op 0 0 0 "" refs [2] kids []`,
			`3: 36 line 0 op 0 0 0 "" refs [1] kids []`,
			`4: 3 line 2 op 0 1 0 "" refs [] kids [2 3]`,
			`5: 1 line 1 op 0 0 0 "" refs [] kids [0 1 4]`,
			`fn 1 "f" line 3 params 0 rest false vars [c] ups [{true 1} {true 0}]`,
			`0: 2 line 4 op 0 0 0 "" refs [0] kids []`,
			`1: 36 line 0 op 0 0 0 "" refs [2] kids []`,
			`2: 11 line 5 op 0 0 0 "" refs [] kids [1]`,
			`3: 1 line 3 op 0 0 0 "" refs [] kids [0 2]`,
			`fn 2 "" line 5 params 0 rest false vars [] ups [{false 0} {true 0} {false 1}]`,
			`0: 27 line 0 op 0 0 0 "" refs [0] kids []`,
			`1: 27 line 0 op 0 0 0 "" refs [1] kids []`,
			`2: 27 line 0 op 0 0 0 "" refs [2] kids []`,
			`3: 27 line 0 op 0 0 0 "" refs [0] kids []`,
			`4: 11 line 5 op 0 0 0 "" refs [] kids [0 1 2 3]`,
			`5: 1 line 5 op 0 0 0 "" refs [] kids [4]`)},
		{"const K = 1 + 1\nlet t = {K, .a = -K, [nil] = 1.5, \"s\", ...}\nt.b, t[true] = (...), not t", lines(
			`fn 0 "main" line 0 params 0 rest true vars [t] ups []`,
			`0: 23 line 0 op 0 1 0 "" refs [] kids []`,
			`1: 23 line 0 op 0 2 0 "" refs [] kids []`,
			`2: 25 line 0 op 0 0 0 "a" refs [] kids []`,
			`3: 23 line 0 op 0 2 0 "" refs [] kids []`,
			`4: 31 line 0 op 19 0 0 "" refs [] kids [3]`,
			`5: 20 line 0 op 0 0 0 "" refs [] kids []`,
			`6: 24 line 0 op 0 0 1.5 "" refs [] kids []`,
			`7: 23 line 0 op 0 2 0 "" refs [] kids []`,
			`8: 25 line 0 op 0 0 0 "s" refs [] kids []`,
			`9: 23 line 0 op 0 3 0 "" refs [] kids []`,
			`10: 37 line 0 op 0 0 0 "" refs [] kids []`,
			`11: 35 line 0 op 1 0 0 "" refs [] kids [0 1 2 4 5 6 7 8 9 10]`,
			`12: 2 line 2 op 0 0 0 "" refs [0] kids [11]`,
			`13: 26 line 0 op 0 0 0 "" refs [0] kids []`,
			`14: 25 line 0 op 0 0 0 "b" refs [] kids []`,
			`15: 33 line 0 op 0 0 0 "" refs [] kids [13 14]`,
			`16: 26 line 0 op 0 0 0 "" refs [0] kids []`,
			`17: 21 line 0 op 0 0 0 "" refs [] kids []`,
			`18: 33 line 0 op 0 0 0 "" refs [] kids [16 17]`,
			`19: 37 line 0 op 0 0 0 "" refs [] kids []`,
			`20: 38 line 0 op 0 0 0 "" refs [] kids [19]`,
			`21: 26 line 0 op 0 0 0 "" refs [0] kids []`,
			`22: 31 line 0 op 21 0 0 "" refs [] kids [21]`,
			`23: 3 line 3 op 0 2 0 "" refs [] kids [15 18 20 22]`,
			`24: 1 line 1 op 0 0 0 "" refs [] kids [12 23]`)},
		{"for i = 1, 2 { next }\ntry { throw 1 } catch e { defer print(e) }", lines(
			`fn 0 "main" line 0 params 0 rest true vars [i e _] ups []`,
			`0: 23 line 0 op 0 1 0 "" refs [] kids []`,
			`1: 23 line 0 op 0 2 0 "" refs [] kids []`,
			`2: 23 line 0 op 0 1 0 "" refs [] kids []`,
			`3: 10 line 1 op 0 0 0 "" refs [] kids []`,
			`4: 1 line 1 op 0 0 0 "" refs [] kids [3]`,
			`5: 7 line 1 op 0 0 0 "" refs [0] kids [0 1 2 4]`,
			`6: 23 line 0 op 0 1 0 "" refs [] kids []`,
			`7: 13 line 2 op 0 0 0 "" refs [] kids [6]`,
			`8: 1 line 2 op 0 0 0 "" refs [] kids [7]`,
			`9: 28 line 0 op 0 0 0 "" refs [] kids []`,
			`10: 26 line 0 op 0 0 0 "" refs [1] kids []`,
			`11: 34 line 0 op 0 0 0 "" refs [] kids [9 10]`,
			`12: 14 line 2 op 0 0 0 "" refs [] kids [11]`,
			`13: 1 line 2 op 0 0 0 "" refs [] kids [12]`,
			`14: 12 line 2 op 0 0 0 "" refs [1 2] kids [8 13]`,
			`15: 1 line 1 op 0 0 0 "" refs [] kids [5 14]`)},
		{"while false {\n}\nfor k, v in 1 { break }\nif nil {} elif 1 .. 2 {\n} else {}", lines(
			`fn 0 "main" line 0 params 0 rest true vars [k v] ups []`,
			`0: 22 line 0 op 0 0 0 "" refs [] kids []`,
			`1: 1 line 1 op 0 0 0 "" refs [] kids []`,
			`2: 6 line 1 op 0 0 0 "" refs [] kids [0 1]`,
			`3: 23 line 0 op 0 1 0 "" refs [] kids []`,
			`4: 9 line 3 op 0 0 0 "" refs [] kids []`,
			`5: 1 line 3 op 0 0 0 "" refs [] kids [4]`,
			`6: 8 line 3 op 0 0 0 "" refs [0 1] kids [3 5]`,
			`7: 20 line 0 op 0 0 0 "" refs [] kids []`,
			`8: 1 line 4 op 0 0 0 "" refs [] kids []`,
			`9: 23 line 0 op 0 1 0 "" refs [] kids []`,
			`10: 23 line 0 op 0 2 0 "" refs [] kids []`,
			`11: 32 line 0 op 12 0 0 "" refs [] kids [9 10]`,
			`12: 1 line 4 op 0 0 0 "" refs [] kids []`,
			`13: 1 line 5 op 0 0 0 "" refs [] kids []`,
			`14: 5 line 4 op 0 0 0 "" refs [] kids [11 12 13]`,
			`15: 5 line 4 op 0 0 0 "" refs [] kids [7 8 14]`,
			`16: 1 line 1 op 0 0 0 "" refs [] kids [2 6 15]`)},
		{"{ let x = 1 and 2 or 3 }\nlet x, x = print\nx()", lines(
			`fn 0 "main" line 0 params 0 rest true vars [x x x] ups []`,
			`0: 23 line 0 op 0 1 0 "" refs [] kids []`,
			`1: 23 line 0 op 0 2 0 "" refs [] kids []`,
			`2: 29 line 0 op 0 0 0 "" refs [] kids [0 1]`,
			`3: 23 line 0 op 0 3 0 "" refs [] kids []`,
			`4: 30 line 0 op 0 0 0 "" refs [] kids [2 3]`,
			`5: 2 line 1 op 0 0 0 "" refs [0] kids [4]`,
			`6: 1 line 1 op 0 0 0 "" refs [] kids [5]`,
			`7: 28 line 0 op 0 0 0 "" refs [] kids []`,
			`8: 2 line 2 op 0 0 0 "" refs [1 2] kids [7]`,
			`9: 26 line 0 op 0 0 0 "" refs [2] kids []`,
			`10: 34 line 0 op 0 0 0 "" refs [] kids [9]`,
			`11: 4 line 3 op 0 0 0 "" refs [] kids [10]`,
			`12: 1 line 1 op 0 0 0 "" refs [] kids [6 8 11]`)},
	} {
		checked, u := unitOf(c.text)
		if checked.Code != 0 {
			t.Errorf("%q: %v", c.text, checked)
		}
		if got := told(u); got != c.want {
			t.Errorf("%q becomes\n%s, not\n%s", c.text, got, c.want)
		}
	}
}

func TestNumbersOfKindsAndOps(t *testing.T) {
	for name, pair := range map[string][2]int{
		"nDefer": {nDefer, 14}, "nTry": {nTry, 12}, "nRest": {nRest, 37}, "nOne": {nOne, 38}, "nIndex": {nIndex, 33},
		"opShr": {opShr, 11}, "opGe": {opGe, 18}, "opNeg": {opNeg, 19}, "opLen": {opLen, 22}, "kBuiltin": {kBuiltin, 8},
	} {
		if pair[0] != pair[1] {
			t.Errorf("%s is %d", name, pair[0])
		}
	}
}
