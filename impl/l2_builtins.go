package impl

import (
	"slices"
	"strings"
)

// The numbers of the builtins.
const (
	bPrint = iota
	bRead
	bType
	bText
	bSetKind
	bKind
	bRawGet
	bRawSet
	bTask
	bResume
	bYield
	bStatus
	bGiveUp
	bCollect
	bCells
)

// typeNames are what the builtin type gives, at the kinds of values.
var typeNames = [...]string{"nil", "bool", "int", "float", "str", "table", "fn", "task", "fn"}

// builtin is what does the builtin of a number. It holds no arguments while it is at work.
func (t *task) builtin(number int64) func([]value) ([]value, error) {
	switch number {
	case bPrint:
		return t.print
	case bRead:
		return t.readLine
	case bType:
		return t.typeName
	case bText:
		return t.textOf
	case bSetKind:
		return t.setKind
	case bKind:
		return t.kindOf
	case bRawGet:
		return t.rawGet
	case bRawSet:
		return t.rawSet
	case bTask:
		return t.makeTask
	case bResume:
		return t.resume
	case bYield:
		return t.yield
	case bStatus:
		return t.status
	case bGiveUp:
		return t.giveUp
	case bCollect:
		return t.collect
	}
	return t.cells
}

func (t *task) print(args []value) ([]value, error) {
	var texts []string
	for _, arg := range args {
		texts = append(texts, textOf(arg))
	}
	line := strings.Join(texts, " ")
	if len(line) > maxStr {
		return nil, t.fail(errLong)
	}
	return nil, t.record(RecPrint, t.line(), line)
}

func (t *task) readLine([]value) ([]value, error) {
	if t.read == len(t.in.Lines) {
		return []value{{}}, nil
	}
	t.read++
	return []value{strValue(t.in.Lines[t.read-1])}, nil
}

func (t *task) typeName(args []value) ([]value, error) {
	return []value{strValue(typeNames[nth(args, 0).kind])}, nil
}

func (t *task) textOf(args []value) ([]value, error) {
	return []value{strValue(textOf(nth(args, 0)))}, nil
}

func (t *task) setKind(args []value) ([]value, error) {
	of, kind := tableOf(nth(args, 0)), tableOf(nth(args, 1))
	if of == nil || kind == nil && nth(args, 1).kind != kNil {
		return nil, t.fail(errArgs)
	}
	of.kind = kind
	t.want(of, kind != nil && kind.entry("last").kind == kFn)
	return []value{tableValue(of)}, nil
}

// want notes whether a table wants a last word.
func (m *machine) want(of *table, wants bool) {
	if of.wants == wants {
		return
	}
	of.wants = wants
	at, _ := slices.BinarySearchFunc(m.wanting, of.number, func(t *table, number int) int { return t.number - number })
	if wants {
		m.wanting = slices.Insert(m.wanting, at, of)
	} else {
		m.wanting = slices.Delete(m.wanting, at, at+1)
	}
}

func (t *task) kindOf(args []value) ([]value, error) {
	of := tableOf(nth(args, 0))
	if of == nil {
		return []value{{}}, nil
	}
	return []value{tableValue(of.kind)}, nil
}

func (t *task) rawGet(args []value) ([]value, error) {
	of := tableOf(nth(args, 0))
	if of == nil {
		return nil, t.fail(errArgs)
	}
	return []value{of.get(nth(args, 1))}, nil
}

func (t *task) rawSet(args []value) ([]value, error) {
	of := tableOf(nth(args, 0))
	if of == nil {
		return nil, t.fail(errArgs)
	}
	return nil, t.put(of, nth(args, 1), nth(args, 2))
}

func (t *task) makeTask(args []value) ([]value, error) {
	fn := nth(args, 0)
	switch {
	case fn.kind != kFn:
		return nil, t.fail(errArgs)
	case t.tasks > MaxTasks:
		return nil, t.fail(errTask)
	}
	if way := t.spend(1); way != nil {
		return nil, way
	}
	return []value{taskValue(t.newTask(fn))}, nil
}

// taskOf is the task that a value is; nil when it is none.
func taskOf(v value) *task {
	t, _ := v.ref.(*task)
	return t
}

func (t *task) resume(args []value) ([]value, error) {
	other := taskOf(nth(args, 0))
	switch {
	case other == nil:
		return nil, t.fail(errArgs)
	case other.state != stateNew && other.state != stateWaiting:
		return nil, t.fail(errTask)
	}
	return t.letRun(other, "resume", turn{values: args[1:]})
}

func (t *task) yield(args []value) ([]value, error) {
	if t.waiter == nil || t.leaving || t.words > 0 {
		return nil, t.fail(errTask)
	}
	t.state = stateWaiting
	given := turn{values: append([]value{boolValue(true)}, args...)}
	if over := t.pass(t.waiter, "yield", given); over != nil {
		return nil, over
	}
	return t.await()
}

func (t *task) status(args []value) ([]value, error) {
	other := taskOf(nth(args, 0))
	if other == nil {
		return nil, t.fail(errArgs)
	}
	return []value{strValue(stateNames[other.state])}, nil
}

func (t *task) giveUp(args []value) ([]value, error) {
	other := taskOf(nth(args, 0))
	switch {
	case other == nil:
		return nil, t.fail(errArgs)
	case other.state == stateNew:
		other.state = stateDone
		return []value{boolValue(true)}, nil
	case other.state != stateWaiting:
		return nil, t.fail(errTask)
	}
	other.letGo()
	return t.letRun(other, "giveup", turn{way: wayGone})
}

func (t *task) collect([]value) ([]value, error) {
	for {
		r := t.look()
		r.takeOut()
		words := r.lastWords()
		if len(words) == 0 {
			break
		}
		if over := t.speak(words); over != nil {
			return nil, over
		}
	}
	t.lives, t.since = t.look().cells, 0
	return []value{intValue(int64(t.lives))}, nil
}

func (t *task) cells([]value) ([]value, error) {
	return []value{intValue(int64(t.look().cells))}, nil
}
