package impl

import "sync"

const (
	maxRecs  = 100000
	maxList  = 250
	maxChain = 20
)

// machine is one run of a unit. Of its tasks one runs at a time, and only that one touches it.
type machine struct {
	codes   []*code
	in      Input
	report  Report
	hook    hook
	read    int // how many of the Lines
	tables  int // how many were made
	tasks   int
	running *task
	wanting []*table // those that want a last word, in the order of their making
	lives   int      // the cells that the last collect counted
	since   int      // the cells made since
	sight   int      // the number of the last look at what is reached
	over    chan struct{}
	stopped sync.Once
	ended   sync.WaitGroup
}

// hook is told the number of each record at the moment at which it is made. The run is over when it answers so.
type hook func(number int) error

// code is a fn of the unit, compiled.
type code struct {
	unitFn
	number int
	body   stat
}

// box is a variable: it is made when its declaration is carried out.
type box struct{ value value }

// closure is a fn with the variables that it closes over.
type closure struct {
	marked
	code *code
	ups  []*box
}

func newMachine(u unit, in Input) *machine {
	m := &machine{in: in, hook: unwatched, over: make(chan struct{})}
	for number, f := range u.fns {
		c := &code{unitFn: f, number: number}
		c.body = compiler{m, f.nodes}.stat(len(f.nodes) - 1)
		m.codes = append(m.codes, c)
	}
	return m
}

// unwatched is the hook of a run at which nobody looks.
func unwatched(int) error { return nil }

// run does the text as the first task, and waits until all goroutines of the others have ended.
func (m *machine) run() Report {
	text := m.newTask(value{})
	text.state = stateRunning
	m.running = text
	var args []value
	for _, arg := range m.in.Args {
		args = append(args, strValue(arg))
	}
	f := newFrame(text, m.codes[0], nil, args)
	text.frames.push(f)
	m.conclude(m.codes[0].body(f))
	m.stop()
	m.ended.Wait()
	return m.report
}

// conclude tells in the report by which way the text was left.
func (m *machine) conclude(way error) {
	values, left := outcome(way)
	switch {
	case way == wayOver:
		m.report.Code = endTicks
	case left != nil:
		m.report.Code = endError
		m.report.Error = asTold(left.value)
		m.report.Trace = left.trace
	}
	for _, v := range values {
		m.report.Vals = append(m.report.Vals, textOf(v))
	}
}

// stop lets go of all tasks that wait.
func (m *machine) stop() { m.stopped.Do(func() { close(m.over) }) }

// tick is due before each step that counts.
func (m *machine) tick() error {
	if m.report.Ticks == m.in.Ticks {
		return wayOver
	}
	m.report.Ticks++
	return nil
}

func (m *machine) record(r Rec) error {
	if len(m.report.Recs) == maxRecs {
		return wayOver
	}
	m.report.Recs = append(m.report.Recs, r)
	return m.hook(len(m.report.Recs) - 1)
}

func (m *machine) newTask(fn value) *task {
	m.tasks++
	return &task{machine: m, number: m.tasks - 1, fn: fn, turns: make(chan turn)}
}

func (m *machine) newTable() *table {
	m.tables++
	return &table{number: m.tables}
}
