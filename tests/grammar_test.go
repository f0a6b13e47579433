package tests

import (
	"sort"
	"strings"
)

// The rows of 1.3, with helping rows in place of `?` and `*`. Each word is a row or a token.
const rows = `
text = stats
stats = seps
stats = seps stat stats1 seps
stats1 =
stats1 = stats1 ; seps stat
seps =
seps = seps ;
stat = let names
stat = let names = exprs
stat = const NAME = expr
stat = fn NAME body
stat = if expr block else?
stat = while expr block
stat = for NAME = expr , expr block
stat = for NAME = expr , expr , expr block
stat = for names in expr block
stat = break
stat = next
stat = return
stat = return exprs
stat = try block catch NAME block
stat = try block catch NAME , NAME block
stat = throw expr
stat = defer call
stat = block
stat = targets = exprs
stat = call
else? =
else? = elif expr block else?
else? = else block
block = { stats }
names = NAME
names = names , NAME
exprs = expr
exprs = exprs , expr
targets = target
targets = targets , target
target = NAME
target = base . NAME
target = base [ expr ]
call = base ( )
call = base ( exprs )
base = NAME
base = ( expr )
base = base . NAME
base = base [ expr ]
base = call
body = ( ) block
body = ( params ) block
params = ...
params = names
params = names , ...
expr = unit
expr = expr infix unit
unit = prefix unit
unit = base
unit = INT
unit = FLT
unit = STR
unit = nil
unit = true
unit = false
unit = ...
unit = fn body
unit = table
prefix = not
prefix = -
prefix = #
prefix = ~
table = { }
table = { entries }
table = { entries , }
entries = entry
entries = entries , entry
entry = expr
entry = [ expr ] = expr
entry = . NAME = expr
infix = and
infix = or
infix = +
infix = -
infix = *
infix = /
infix = //
infix = %
infix = &
infix = |
infix = ~
infix = <<
infix = >>
infix = ..
infix = ==
infix = ~=
infix = <
infix = <=
infix = >
infix = >=
`

const theEnd = "END"

type rule struct {
	left  string
	right []string
}

type grammar struct {
	rules []rule
	byRow map[string][]int
	empty map[string]int
	signs []string
	words []string
}

func newGrammar() *grammar {
	g := &grammar{byRow: map[string][]int{}, empty: map[string]int{"seps": 1, "stats": 1, "stats1": 1, "else?": 1, "text": 1}}
	for _, line := range strings.Split(strings.TrimSpace(rows), "\n") {
		words := strings.Fields(line)
		g.byRow[words[0]] = append(g.byRow[words[0]], len(g.rules))
		g.rules = append(g.rules, rule{words[0], words[2:]})
	}
	seen := map[string]int{}
	for _, r := range g.rules {
		for _, w := range r.right {
			if g.byRow[w] == nil && seen[w] == 0 && !strings.Contains(" NAME INT FLT STR ", " "+w+" ") {
				seen[w] = 1
				if isLetter(w[0]) {
					g.words = append(g.words, w)
				} else {
					g.signs = append(g.signs, w)
				}
			}
		}
	}
	sort.Strings(g.words)
	sort.Strings(g.signs)
	return g
}

func isLetter(b byte) bool {
	return b == '_' || 'a' <= b && b <= 'z' || 'A' <= b && b <= 'Z'
}

// item is a rule of which a piece has been seen, begun at a place.
type item struct{ rule, dot, from int }

// chart follows all ways in which a row of tokens can be derived at the same time (Earley), knowing nothing but rows.
type chart struct {
	g    *grammar
	sets [][]item
	has  []map[item]int
}

func newChart(g *grammar) *chart {
	c := &chart{g: g}
	c.grow()
	for _, r := range g.byRow["text"] {
		c.add(item{r, 0, 0})
	}
	c.close()
	return c
}

func (c *chart) grow() {
	c.sets = append(c.sets, nil)
	c.has = append(c.has, map[item]int{})
}

func (c *chart) add(i item) {
	last := len(c.sets) - 1
	if c.has[last][i] == 0 {
		c.has[last][i] = 1
		c.sets[last] = append(c.sets[last], i)
	}
}

func (c *chart) close() {
	last := len(c.sets) - 1
	for k := 0; k < len(c.sets[last]); k++ {
		i := c.sets[last][k]
		r := c.g.rules[i.rule]
		if i.dot == len(r.right) {
			for _, j := range c.sets[i.from] {
				q := c.g.rules[j.rule]
				if j.dot < len(q.right) && q.right[j.dot] == r.left {
					c.add(item{j.rule, j.dot + 1, j.from})
				}
			}
			continue
		}
		w := r.right[i.dot]
		for _, n := range c.g.byRow[w] {
			c.add(item{n, 0, last})
		}
		if c.g.empty[w] == 1 {
			c.add(item{i.rule, i.dot + 1, i.from})
		}
	}
}

// allowed are the tokens that can stand next.
func (c *chart) allowed() map[string]int {
	out := map[string]int{}
	for _, i := range c.sets[len(c.sets)-1] {
		r := c.g.rules[i.rule]
		if i.dot == len(r.right) {
			if r.left == "text" {
				out[theEnd] = 1
			}
		} else if c.g.byRow[r.right[i.dot]] == nil {
			out[r.right[i.dot]] = 1
		}
	}
	return out
}

func (c *chart) feed(tok string) {
	last := c.sets[len(c.sets)-1]
	c.grow()
	for _, i := range last {
		r := c.g.rules[i.rule]
		if i.dot < len(r.right) && r.right[i.dot] == tok {
			c.add(item{i.rule, i.dot + 1, i.from})
		}
	}
	c.close()
}

// sorted makes random choices hang on nothing but the seed.
func sorted(m map[string]int) []string {
	var out []string
	for w := range m {
		out = append(out, w)
	}
	sort.Strings(out)
	return out
}
