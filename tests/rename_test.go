package tests

import (
	"reflect"
	"regexp"
	"slices"
	"strings"
	"testing"

	"loop.example/mill/impl"
)

// A string, a remark, dots, a field, a number, a name, or any other byte.
var namePieces = regexp.MustCompile(`"(?:\\.|[^"\\])*"|--[^\n]*|\.\.\.?|\.\s*[A-Za-z_]\w*|[0-9]\w*|[A-Za-z_]\w*|(?s:.)`)

var namedFns = regexp.MustCompile(`\bfn\s+([A-Za-z_]\w*)`)

const (
	wordList    = "and break catch const defer elif else false fn for if in let next nil not or return throw true try while"
	builtinList = "print read type text setkind kind rawget rawset task resume yield status giveup collect cells"
)

// variablesOf are the names of a text's variables in order, but those of named fns, which a report shows.
func variablesOf(text string) []string {
	kept := strings.Fields(wordList + " " + builtinList)
	for _, m := range namedFns.FindAllStringSubmatch(text, -1) {
		kept = append(kept, m[1])
	}
	var names []string
	for _, piece := range namePieces.FindAllString(text, -1) {
		if isLetter(piece[0]) && !slices.Contains(kept, piece) {
			names = append(names, piece)
		}
	}
	slices.Sort(names)
	return slices.Compact(names)
}

func renamed(text string, names map[string]string) string {
	return namePieces.ReplaceAllStringFunc(text, func(piece string) string {
		if other, ok := names[piece]; ok {
			return other
		}
		return piece
	})
}

// otherNames are several ways to name variables anew, no two of them alike.
func otherNames(text string, names []string) []map[string]string {
	ways := []map[string]string{{}, {}, {}, {}}
	var free []string
	for _, name := range strings.Fields(builtinList) {
		if !strings.Contains(text, name) {
			free = append(free, name)
		}
	}
	for i, name := range names {
		ways[0][name] = "z" + name
		ways[1][name] = names[(i+1)%len(names)]
		ways[2][name] = name + strings.Repeat("_", 40-len(name))
		if i < len(free) {
			ways[3][name] = free[i]
		}
	}
	return ways
}

// sameButNames tells whether two views are the same once the names of the first are changed.
func sameButNames(a, b impl.View, names map[string]string) bool {
	for i := range a.Calls {
		for k := range a.Calls[i].Vars {
			if other, ok := names[a.Calls[i].Vars[k].Name]; ok {
				a.Calls[i].Vars[k].Name = other
			}
		}
	}
	return reflect.DeepEqual(a, b)
}

func TestOtherNames(t *testing.T) {
	for _, text := range append(programs(), renamingTexts...) {
		names := variablesOf(text)
		want := impl.Run(text, ample())
		for _, other := range otherNames(text, names) {
			changed := renamed(text, other)
			if got := impl.Run(changed, ample()); want.Code == 3 || !reflect.DeepEqual(got, want) {
				t.Fatalf("%s\nshows something else than\n%s", changed, text)
			}
			for k := 0; k < len(want.Recs); k += 1 + len(want.Recs)/150 {
				if !sameButNames(impl.Look(text, ample(), k), impl.Look(changed, ample(), k), other) {
					t.Fatalf("%s\nrecord %d\n%v\n%v", changed, k, impl.Look(text, ample(), k), impl.Look(changed, ample(), k))
				}
			}
		}
	}
}

var renamingTexts = []string{
	"let a, b = 1, {.a = 2, .b = fn(a) {return a.a}}\nprint(b.a, b.b(b), b[\"a\"], a)\nlet c = b .. a",
	"fn f(a, ...) {\nlet b = a\n{let a = b + 1; let b = a * 2; print(a, b)}\nreturn fn() {b = b + a; return b}\n}\nlet g = f(1)\nprint(g(), g())",
	"const k = 3\nfor i = k, 1, -1 {\nfor j in {i, i} {\ntry {throw j} catch j, r {let i = r; print(j, i)}\n}\n}",
	"let s = \"a let b -- c\" -- let a = b\nlet a = s\nprint(#a, a == s)",
}

// One and the same program, its variables named alike or not where either way means the same ones.
func TestNamesThatHideOrDont(t *testing.T) {
	for _, pair := range [][2]string{
		{"let a = 1\nlet b = 2\n{let c = 3; print(c)}\nlet d = 4\nprint(d)", "let a = 1\nlet a = 2\n{let a = 3; print(a)}\nlet a = 4\nprint(a)"},
		{"fn f(a, b, c) {\nlet d = c\nreturn fn(e) {return e}, d\n}\nprint(f(1, 2, 3))", "fn f(a, a, a) {\nlet a = a\nreturn fn(a) {return a}, a\n}\nprint(f(1, 2, 3))"},
		{"for i = 1, 2 {for k, v in {i} {let w = v; print(w)}}", "for i = 1, 2 {for i, i in {i} {let i = i; print(i)}}"},
		{"try {throw 1} catch e, r {print(r)}\ntry {throw 2} catch e {print(e)}", "try {throw 1} catch x, x {print(x)}\ntry {throw 2} catch x {print(x)}"},
		{"let p = print\nlet q = p\nq(q)", "let print = print\nlet print = print\nprint(print)"},
	} {
		one, other := impl.Run(pair[0], ample()), impl.Run(pair[1], ample())
		if one.Code != 0 || !reflect.DeepEqual(one, other) {
			t.Errorf("%s\nshows something else than\n%s", pair[0], pair[1])
		}
		for k := range one.Recs {
			a, b := impl.Look(pair[0], ample(), k), impl.Look(pair[1], ample(), k)
			if !sameButNames(blankNames(a), blankNames(b), nil) {
				t.Errorf("%s\nrecord %d\n%v\n%v", pair[0], k, a, b)
			}
		}
	}
}

// blankNames takes the names out of a view.
func blankNames(v impl.View) impl.View {
	for i := range v.Calls {
		for k := range v.Calls[i].Vars {
			v.Calls[i].Vars[k].Name = ""
		}
	}
	return v
}
