package impl

import "strings"

// thing is what a run makes and values refer to: a table, a fn, a task.
type thing interface {
	lastSeen() *int
	follow(r *sight)
}

// marked is a thing's mark: the number of the look that saw it last.
type marked struct{ seen int }

func (m *marked) lastSeen() *int { return &m.seen }

// sight is one look at what is reached.
type sight struct {
	machine *machine
	number  int
	cells   int
	work    stack[value]
	weak    []*table          // those that hold weakly
	beside  map[value][]value // by a weak key that was not reached yet, the values beside it
}

// look works out what is reached.
func (m *machine) look() *sight {
	m.sight++
	r := &sight{machine: m, number: m.sight, beside: map[value][]value{}}
	for t := m.running; t != nil; t = t.waiter {
		r.visit(taskValue(t))
	}
	for r.work.height() > 0 {
		v := r.work.pop()
		v.ref.follow(r)
		r.visit(r.beside[v]...)
	}
	return r
}

// has tells whether a value is reached, or is no thing.
func (r *sight) has(v value) bool { return v.ref == nil || *v.ref.lastSeen() == r.number }

func (r *sight) visit(values ...value) {
	for _, v := range values {
		if !r.has(v) {
			*v.ref.lastSeen() = r.number
			r.work.push(v)
		}
	}
}

func (c *closure) follow(r *sight) {
	r.cells += 1 + len(c.ups)
	for _, up := range c.ups {
		r.visit(up.value)
	}
}

func (t *task) follow(r *sight) {
	if t.number > 0 {
		r.cells++
	}
	switch t.state {
	case stateDone:
		return
	case stateNew:
		r.visit(t.fn)
	}
	if t.dropped != nil {
		r.visit(t.dropped.value)
	}
	for _, f := range t.frames.items {
		f.follow(r)
	}
}

func (f *frame) follow(r *sight) {
	if f.fn != nil {
		r.visit(value{kind: kFn, ref: f.fn})
	}
	for _, number := range f.scope.items {
		r.visit(f.vars[number].value)
	}
	r.visit(f.rest...)
	r.visit(f.held.items...)
	for _, k := range f.kept.items {
		r.visit(k.callee)
		r.visit(k.args...)
	}
	for _, way := range f.ways.items {
		values, left := outcome(way)
		r.visit(values...)
		if left != nil {
			r.visit(left.value)
		}
	}
}

// weakly tells whether a table holds its keys and its values weakly.
func (t *table) weakly() (keys, values bool) {
	if t.kind == nil {
		return false, false
	}
	weak := t.kind.entry("weak")
	return strings.Contains(weak.str, "k"), strings.Contains(weak.str, "v")
}

func (t *table) follow(r *sight) {
	r.cells += 1 + len(t.pairs)
	r.visit(tableValue(t.kind))
	keys, values := t.weakly()
	if keys || values {
		r.weak = append(r.weak, t)
	}
	for _, p := range t.pairs {
		if !keys {
			r.visit(p.key)
		}
		switch {
		case values:
		case r.has(p.key):
			r.visit(p.val)
		default:
			r.beside[p.key] = append(r.beside[p.key], p.val)
		}
	}
}

// takeOut takes those pairs out of the tables that hold weakly whose weak key or value is not reached.
func (r *sight) takeOut() {
	for _, t := range r.weak {
		keys, values := t.weakly()
		var lost []*pair
		for _, p := range t.pairs {
			if keys && !r.has(p.key) || values && !r.has(p.val) {
				lost = append(lost, p)
			}
		}
		for _, p := range lost {
			t.remove(p)
		}
	}
}

// lastWord is a table that is told its last word, and the fn that tells it.
type lastWord struct{ of, fn value }

// lastWords are the last words of the tables that are not reached; these want none any more.
func (r *sight) lastWords() []lastWord {
	var words []lastWord
	var wanting []*table
	for _, t := range r.machine.wanting {
		if r.has(tableValue(t)) {
			wanting = append(wanting, t)
			continue
		}
		t.wants = false
		if fn := t.kind.entry("last"); fn.kind == kFn {
			words = append(words, lastWord{tableValue(t), fn})
		}
	}
	r.machine.wanting = wanting
	return words
}

// speak tells tables their last words. All of them are held until the last one is told.
func (t *task) speak(words []lastWord) error {
	f := t.frames.top()
	height := f.held.height()
	defer f.held.cut(height)
	for _, word := range words {
		f.held.push(word.of, word.fn)
	}
	t.words++
	defer func() { t.words-- }()
	for _, word := range words {
		if over := t.speakOne(word); over != nil {
			return over
		}
	}
	return nil
}

func (t *task) speakOne(word lastWord) error {
	if over := t.machine.record(Rec{Kind: RecLast, Task: t.number}); over != nil {
		return over
	}
	_, way := t.call(word.fn, []value{word.of})
	if _, left := outcome(way); left != nil {
		return t.machine.record(Rec{Kind: RecCatch, Task: t.number, Text: asTold(left.value)})
	}
	return way
}
