package tests

import (
	"math/rand"
	"regexp"
	"strings"
	"testing"

	"loop.example/mill/impl"
)

// What a piece of a token looks like, and what a whole one does.
var (
	blanks     = regexp.MustCompile(`^([ \t\r]|--[^\n]*)*`)
	namePiece  = regexp.MustCompile(`^[A-Za-z_][A-Za-z0-9_]*$`)
	wholeName  = regexp.MustCompile(`^[A-Za-z_][A-Za-z0-9_]*`)
	numPiece   = regexp.MustCompile(`^(0x[0-9a-f]{0,16}|(0|[1-9][0-9]*)(\.[0-9]*|(\.[0-9]+)?e([+-]?[0-9]*))?)$`)
	wholeHex   = regexp.MustCompile(`^0x[0-9a-f]*`)
	wholeNum   = regexp.MustCompile(`^(0|[1-9][0-9]*)(\.[0-9]+)?(e[+-]?[0-9]*)?`)
	numDone    = regexp.MustCompile(`^(0x[0-9a-f]{1,16}|(0|[1-9][0-9]*)(\.[0-9]+)?(e[+-]?[0-9]+)?)$`)
	strPiece   = regexp.MustCompile(`(?s)^"([^"\\\n]|\\[nt"\\]|\\x[0-9a-f]{2})*("|\\|\\x|\\x[0-9a-f])?$`)
	wholeStr   = regexp.MustCompile(`(?s)^"([^"\\\n]|\\[nt"\\]|\\x[0-9a-f]{2})*"`)
	wholeDigit = regexp.MustCompile(`^[0-9]`)
)

// latin makes each byte a rune of its own, so that the patterns see bytes.
func latin(s string) string {
	var out []rune
	for i := range len(s) {
		out = append(out, rune(s[i]))
	}
	return string(out)
}

// viable tells whether something allowed, or a remark, begins with the piece.
func viable(piece string, allowed map[string]int) bool {
	if strings.HasPrefix("--", piece) {
		return true
	}
	for w := range allowed {
		if w != theEnd && strings.HasPrefix(w, piece) && !strings.Contains(" NAME INT FLT STR ", " "+w+" ") {
			return true
		}
	}
	return allowed["NAME"] == 1 && namePiece.MatchString(piece) ||
		allowed["INT"] == 1 && numPiece.MatchString(piece) ||
		allowed["STR"] == 1 && strPiece.MatchString(latin(piece))
}

// nextToken is the kind of the token at the beginning of the rest and its length; no kind when there is no token.
func nextToken(g *grammar, rest string) (string, int) {
	if w := wholeName.FindString(rest); w != "" {
		for _, word := range g.words {
			if w == word {
				return w, len(w)
			}
		}
		return "NAME", len(w)
	}
	if wholeDigit.MatchString(rest) {
		w := wholeNum.FindString(rest)
		if strings.HasPrefix(rest, "0x") {
			w = wholeHex.FindString(rest)
		}
		if numDone.MatchString(w) {
			return "INT", len(w)
		}
		return "", 0
	}
	if w := wholeStr.FindString(latin(rest)); w != "" {
		return "STR", len([]rune(w))
	}
	best := ""
	for _, sign := range g.signs {
		if strings.HasPrefix(rest, sign) && len(sign) > len(best) {
			best = sign
		}
	}
	return best, len(best)
}

// faultByRows is the place of the first fault in the form of a text by the rows; -1 when there is none. Behind it,
// what the kinds of its tokens are, each newline that separates as a `;`.
func faultByRows(g *grammar, text string) (int, []string) {
	c := newChart(g)
	var toks []string
	at := 0
	for {
		at += len(blanks.FindString(latinBytes(text[at:])))
		allowed := c.allowed()
		if at == len(text) {
			if allowed[theEnd] == 1 {
				return -1, toks
			}
			return at, toks
		}
		if text[at] == '\n' {
			at++
			if allowed[";"] == 1 {
				c.feed(";")
				toks = append(toks, ";")
			}
			continue
		}
		kind, n := nextToken(g, text[at:])
		if kind == "" || allowed[kind] == 0 {
			for n := 1; at+n <= len(text); n++ {
				if !viable(text[at:at+n], allowed) {
					return at + n - 1, toks
				}
			}
			return len(text), toks
		}
		c.feed(kind)
		toks = append(toks, kind)
		at += n
	}
}

// latinBytes keeps lengths: bytes above 127 stand in remarks only, where any byte will do.
func latinBytes(s string) string {
	b := []byte(s)
	for i := range b {
		if b[i] > 127 {
			b[i] = '?'
		}
	}
	return string(b)
}

func compareWithRows(t *testing.T, g *grammar, text string) bool {
	t.Helper()
	want, _ := faultByRows(g, text)
	got := impl.Check(text)
	if want < 0 {
		if got.Code == 1 {
			t.Errorf("%q: %v, but it is well-formed", text, got)
			return false
		}
		return true
	}
	line := strings.Count(text[:want], "\n") + 1
	column := want - strings.LastIndex(text[:want], "\n")
	if got != (impl.Checked{Code: 1, At: want, Line: line, Column: column}) {
		t.Errorf("%q: %v, but the fault is at %d, %d:%d", text, got, want, line, column)
		return false
	}
	return true
}

func pick(r *rand.Rand, list []string) string { return list[r.Intn(len(list))] }

func anyOf(r *rand.Rand, kind string) string {
	switch kind {
	case "NAME":
		return pick(r, []string{"a", "b", "an", "o", "i", "el", "lets", "_x1", "print", "catchy", "Ab"})
	case "INT", "FLT":
		return pick(r, []string{"0", "7", "12", "0x1f", "1.5", "2e3", "0.25e-1", "9223372036854775808", "0xffffffffffffffff"})
	case "STR":
		return pick(r, []string{`""`, `"a"`, `"\n\t\"\\\x0f"`, "\"\xff--\"", `"-- ; { "`})
	}
	return kind
}

func anyBlank(r *rand.Rand, newlines bool) string {
	list := []string{" ", " ", " ", "\t", "\r", "  "}
	if newlines {
		list = append(list, "\n", "\n\n", "-- x }\n", "\n--")
	}
	b := pick(r, list)
	if strings.HasSuffix(b, "--") {
		b += " \xfe(\n"
	}
	return b
}

// anyText walks through what may stand, mostly, and now and then beside it.
func anyText(r *rand.Rand, g *grammar, wrong float64) string {
	var b strings.Builder
	c := newChart(g)
	for range 1 + r.Intn(30) {
		allowed := c.allowed()
		delete(allowed, theEnd)
		tok := pick(r, sorted(allowed))
		if r.Float64() < 0.4 {
			for _, short := range []string{")", "}", "NAME", "=", "(", "block", "{", ";"} {
				if allowed[short] == 1 && r.Intn(2) == 0 {
					tok = short
					break
				}
			}
		}
		if r.Float64() < wrong {
			tok = pick(r, append(append([]string{"NAME", "INT", "STR", "$", "\xc3", "\"", "0x", "1e", "\\", "!", "\n", "\x00"}, g.words...), g.signs...))
		} else {
			c.feed(tok)
		}
		piece := anyOf(r, tok)
		if tok == ";" && r.Intn(2) == 0 {
			piece = "\n"
		}
		b.WriteString(piece)
		if r.Float64() < 0.9 {
			b.WriteString(anyBlank(r, r.Intn(8) == 0))
		}
	}
	return b.String()
}

// Of each text Check has the very fault that the rows say, wherever that is.
func TestFormByRows(t *testing.T) {
	g := newGrammar()
	r := rand.New(rand.NewSource(1))
	for n := range 4000 {
		text := anyText(r, g, float64(n%4)*0.03)
		if r.Intn(3) == 0 {
			text = text[:r.Intn(len(text)+1)]
		}
		if r.Intn(4) == 0 && text != "" {
			bytes := []byte(text)
			bytes[r.Intn(len(bytes))] = byte(r.Intn(256))
			text = string(bytes)
		}
		if !compareWithRows(t, g, text) {
			return
		}
	}
}

// Pieces of tokens that touch each other hold against the rows as well.
func TestFormOfTouchingPieces(t *testing.T) {
	g := newGrammar()
	r := rand.New(rand.NewSource(4))
	pieces := strings.Split("a|e|x|0|1|9|.|..|...|-|--|=|==|~|<|/|#|(|)|{|}|[|]|,|;|\"|\\|0x|0xf|1e|and|or|in|not|nil|fn|let|f()|x=|\n| ", "|")
	for range 8000 {
		text := pick(r, []string{"", "x=", "f(", "let x=1", "if a{}", "for a", "x={", "f()", "fn f("})
		for range 1 + r.Intn(7) {
			text += pick(r, pieces)
		}
		if !compareWithRows(t, g, text) {
			return
		}
	}
}

// tellingBytes are all that a token can begin or go on with outside of strings, and some others.
func tellingBytes() []byte {
	out := []byte{0, 9, 10, 11, 13, 31, 127, 128, 255}
	for b := byte(32); b < 127; b++ {
		out = append(out, b)
	}
	return out
}

// Behind each beginning of a well-formed text each byte is held against the rows.
func TestEachByteBehindABeginning(t *testing.T) {
	g := newGrammar()
	for _, text := range []string{
		"let a, b = 1, (f)(...) fn",
		"for i = 1, 2, 3 {next}\nfor k, v in t {break}",
		"if a {} elif b.c {} else {} ",
		"try {throw x} catch e, t {return\n}",
		"a.b, c[1], d = {1, [2] = 3, .x = 4,}, 0x1f, 1.5e+3 ",
		"fn f(a, ...) {defer (g)(\"\\x1f\\n\")}",
		"x = not -#~a .. b and c or d << 1 // 2 ",
	} {
		for n := range len(text) + 1 {
			for _, b := range tellingBytes() {
				if !compareWithRows(t, g, text[:n]+string([]byte{b})) {
					return
				}
			}
		}
	}
}
