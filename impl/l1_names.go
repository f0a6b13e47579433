package impl

// builtins are the names that need no declaration, at their numbers.
var builtins = [...]string{
	"print", "read", "type", "text", "setkind", "kind", "rawget", "rawset",
	"task", "resume", "yield", "status", "giveup", "collect", "cells",
}

// variable is one variable of a unit: its fn, and its number there.
type variable struct {
	fn    int
	index int
}

// meaning is what a name is declared as: a variable, or a const with its value.
type meaning struct {
	fixed    bool
	value    value
	variable variable
}

// scope is what a block, or what stands around one, declares so far.
type scope struct {
	names map[string]meaning
	outer *scope
}

// find is what a name is where the scope is the innermost one; ok is false when it is nothing.
func (s *scope) find(name string) (found meaning, ok bool) {
	for ; s != nil; s = s.outer {
		if found, ok = s.names[name]; ok {
			return found, true
		}
	}
	for number, builtin := range builtins {
		if name == builtin {
			return meaning{fixed: true, value: value{kind: kBuiltin, num: int64(number)}}, true
		}
	}
	return meaning{}, false
}

// draft is a fn of a unit while it is made.
type draft struct {
	unitFn
	number int
	outer  *draft
	upAt   map[variable]int
	loops  int
}

// up is the place in the fn's ups of a variable of a fn around it. The fn just around has it ahead of this one.
func (d *draft) up(v variable) int {
	if at, ok := d.upAt[v]; ok {
		return at
	}
	made := up{true, v.index}
	if v.fn != d.outer.number {
		made = up{false, d.outer.up(v)}
	}
	at := len(d.ups)
	d.upAt[v] = at
	d.ups = append(d.ups, made)
	return at
}
