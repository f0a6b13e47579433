package impl

import (
	"errors"
	"strconv"
	"strings"
)

// A way is how a block, a call or an expression is left, as an error: nil when it came to its end; one of these; a
// returned; or a thrown.
var (
	wayBreak = errors.New("the loop is over")
	wayNext  = errors.New("the loop goes on with its next turn")
	wayGone  = errors.New("the task is given up")
	wayOver  = errors.New("the run is over")
)

// returned is the way of a return, with its values.
type returned struct{ values []value }

func (r *returned) Error() string { return "the call has returned" }

// thrown is the way of an error of the language.
type thrown struct {
	value value
	trace string
}

func (e *thrown) Error() string { return "thrown at " + e.trace }

// outcome is what a way brings along: the values of a return, or the error of the language.
func outcome(way error) ([]value, *thrown) {
	var left *thrown
	if errors.As(way, &left) {
		return nil, left
	}
	var back *returned
	if errors.As(way, &back) {
		return back.values, nil
	}
	return nil, nil
}

// asTold is an error as it is told, by its value.
func asTold(v value) string {
	if t := tableOf(v); t != nil {
		if code := t.entry("code"); code.kind == kInt {
			return "error " + textOf(code)
		}
	}
	return textOf(v)
}

// throw makes the way of an error that is thrown where the task stands.
func (t *task) throw(v value) error {
	var calls []string
	for i := t.frames.height() - 1; i >= 0; i-- {
		calls = append(calls, t.frames.items[i].traced())
	}
	if over := t.record(RecThrow, t.line(), asTold(v)); over != nil {
		return over
	}
	return &thrown{v, strings.Join(calls, " ")}
}

func (f *frame) traced() string {
	name := f.code.name
	if name == "" {
		name = "fn"
	}
	return name + ":" + strconv.Itoa(f.line)
}

// fail throws what the machine throws: a table, which makes no cells.
func (t *task) fail(code int) error {
	made := t.newTable()
	made.add(strValue("code"), intValue(int64(code)))
	made.add(strValue("line"), intValue(int64(t.line())))
	return t.throw(tableValue(made))
}
