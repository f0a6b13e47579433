package impl

// The states of tasks.
const (
	stateNew = iota
	stateWaiting
	stateRunning
	stateBusy
	stateDone
)

var stateNames = [...]string{"new", "waiting", "running", "busy", "done"}

// task is one of the tasks of a run. Each but the text lives in a goroutine of its own, which begins when the task is
// resumed for the first time. It touches the machine only between a turn that it is given and one that it gives.
type task struct {
	marked
	*machine
	number  int
	state   int
	fn      value // what a new task will call
	frames  stack[*frame]
	turns   chan turn
	waiter  *task   // the one that let it run
	leaving bool    // it is being given up
	words   int     // last words that are being spoken and were begun in it
	dropped *thrown // the last error that left a defer while it was given up
}

// turn is what a task gets along with its turn to run: values, or the way by which it is to be left.
type turn struct {
	values []value
	way    error
}

func taskValue(t *task) value { return value{kind: kTask, ref: t} }

// line is the line of the statement at hand.
func (t *task) line() int {
	if f := t.frames.top(); f != nil {
		return f.line
	}
	return 0
}

// record makes a record of where the task stands.
func (t *task) record(kind, line int, text string) error {
	r := Rec{Kind: kind, Task: t.number, Line: line, Text: text}
	if f := t.frames.top(); f != nil {
		r.Fn = f.code.number
	}
	return t.machine.record(r)
}

// pass makes another task the running one.
func (t *task) pass(to *task, text string, given turn) error {
	t.running = to
	to.state = stateRunning
	if over := t.machine.record(Rec{Kind: RecTurn, Task: to.number, Text: text}); over != nil {
		return over
	}
	to.turns <- given
	return nil
}

// await waits until it is the task's turn, or the run is over.
func (t *task) await() ([]value, error) {
	select {
	case given := <-t.turns:
		return given.values, given.way
	case <-t.over:
		return nil, wayOver
	}
}

// letRun lets another task run, and waits for it.
func (t *task) letRun(other *task, text string, given turn) ([]value, error) {
	if other.state == stateNew {
		t.ended.Add(1)
		go other.live()
	}
	t.state = stateBusy
	other.waiter = t
	if over := t.pass(other, text, given); over != nil {
		return nil, over
	}
	return t.await()
}

// live is what the goroutine of a task does.
func (t *task) live() {
	defer t.ended.Done()
	values, way := t.await()
	if way == nil {
		values, way = t.call(t.fn, values)
	}
	if way != wayOver {
		way = t.finish(values, way)
	}
	if way == wayOver {
		t.stop()
	}
}

// finish makes the task done and gives the turn back.
func (t *task) finish(values []value, way error) error {
	text := "done"
	_, left := outcome(way)
	switch {
	case way == wayGone:
		text, left = "gone", t.dropped
	case left != nil:
		text = "error"
	}
	answer := append([]value{boolValue(true)}, values...)
	if left != nil {
		answer = []value{boolValue(false), left.value, strValue(left.trace)}
	}
	t.state = stateDone
	return t.pass(t.waiter, text, turn{values: answer})
}

// letGo lets go of whatever was on its way in a task that is given up.
func (t *task) letGo() {
	t.leaving = true
	for _, f := range t.frames.items {
		for i := range f.ways.items {
			f.ways.items[i] = wayGone
		}
	}
}
