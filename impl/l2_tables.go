package impl

import (
	"cmp"
	"slices"
)

const maxPairs = 500

// pair is a key with its value; turn is the number of the coming of its key.
type pair struct {
	key  value
	val  value
	turn int
}

// table finds its pairs by their keys, and keeps them in the order in which they came.
type table struct {
	marked
	number int
	byKey  map[value]*pair
	pairs  []*pair
	turns  int
	kind   *table
	wants  bool // a last word
}

func tableValue(t *table) value {
	if t == nil {
		return value{}
	}
	return value{kind: kTable, ref: t}
}

// tableOf is the table that a value is; nil when it is none.
func tableOf(v value) *table {
	t, _ := v.ref.(*table)
	return t
}

// find is the pair of a key; nil when there is none.
func (t *table) find(k value) *pair {
	place := key(k)
	if place.code != 0 {
		return nil
	}
	return t.byKey[place.value]
}

func (t *table) get(k value) value {
	if found := t.find(k); found != nil {
		return found.val
	}
	return value{}
}

// entry is what the table has at a name.
func (t *table) entry(name string) value { return t.get(strValue(name)) }

// add lets a pair come whose key is new, and as key made it.
func (t *table) add(k, v value) {
	if t.byKey == nil {
		t.byKey = map[value]*pair{}
	}
	t.turns++
	came := &pair{k, v, t.turns}
	t.byKey[k] = came
	t.pairs = append(t.pairs, came)
}

func (t *table) remove(p *pair) {
	delete(t.byKey, p.key)
	at, _ := t.search(p.turn)
	t.pairs = slices.Delete(t.pairs, at, at+1)
}

// search is the place of the first pair whose turn is not below a number, and whether it is that number.
func (t *table) search(turn int) (int, bool) {
	return slices.BinarySearchFunc(t.pairs, turn, func(p *pair, turn int) int { return cmp.Compare(p.turn, turn) })
}

// after is the first pair whose turn is above a number; nil when there is none.
func (t *table) after(turn int) *pair {
	at, _ := t.search(turn + 1)
	if at == len(t.pairs) {
		return nil
	}
	return t.pairs[at]
}

// length is the number up to which all ints from 1 on are keys.
func (t *table) length() int64 {
	var n int64
	for t.byKey[intValue(n+1)] != nil {
		n++
	}
	return n
}
