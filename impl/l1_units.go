package impl

const (
	maxFns      = 300
	maxNodes    = 3000
	maxVars     = 200
	maxEachVars = 4
)

// The kinds of nodes: statements.
const (
	nBlock = iota + 1
	nLet
	nSet
	nDo
	nIf
	nWhile
	nFor
	nEach
	nBreak
	nNext
	nReturn
	nTry
	nThrow
	nDefer
)

// The kinds of nodes: expressions.
const (
	nNil = iota + 20
	nTrue
	nFalse
	nInt
	nFlt
	nStr
	nVar
	nUp
	nBuiltin
	nAnd
	nOr
	nUnary
	nBinary
	nIndex
	nCall
	nTable
	nFn
	nRest
	nOne
)

// node is one node of a fn. Its kids stand ahead of it in the fn's list.
type node struct {
	kind int
	line int
	op   int
	num  int64
	flt  float64
	str  string
	refs []int
	kids []int
}

// up is a variable that a fn closes over: one of the fn just around, or one of those that it closes over itself.
type up struct {
	local bool
	index int
}

type unitFn struct {
	name   string
	line   int
	params int
	rest   bool
	vars   []string
	ups    []up
	nodes  []node
}

// unit is what a text becomes; fn 0 is the text itself.
type unit struct{ fns []unitFn }

// fits tells whether a unit that was made from a sound tree is valid. Only its sizes can be wrong: its nodes stand no
// deeper than the parts that they come from, and its names and scopes are right by the way it is made.
func (u unit) fits() bool {
	nodes := 0
	for _, f := range u.fns {
		nodes += len(f.nodes)
		if len(f.vars) > maxVars || len(f.ups) > maxVars {
			return false
		}
		for _, n := range f.nodes {
			if len(n.kids) > maxKids || n.kind == nEach && len(n.refs) > maxEachVars {
				return false
			}
		}
	}
	return len(u.fns) <= maxFns && nodes <= maxNodes
}

// literal is the node of a value that needs nothing of a run.
func literal(v value) node {
	switch v.kind {
	case kBool:
		if v.num == 1 {
			return node{kind: nTrue}
		}
		return node{kind: nFalse}
	case kInt:
		return node{kind: nInt, num: v.num}
	case kFlt:
		return node{kind: nFlt, flt: v.flt}
	case kStr:
		return node{kind: nStr, str: v.str}
	case kBuiltin:
		return node{kind: nBuiltin, num: v.num}
	}
	return node{kind: nNil}
}

// workOut is the value of an expression ahead of any run, if it has one.
func workOut(nodes []node, at int) (value, bool) {
	n := nodes[at]
	switch n.kind {
	case nNil:
		return value{}, true
	case nTrue, nFalse:
		return boolValue(n.kind == nTrue), true
	case nInt:
		return intValue(n.num), true
	case nFlt:
		return floatValue(n.flt), true
	case nStr:
		return strValue(n.str), true
	case nBuiltin:
		return value{kind: kBuiltin, num: n.num}, true
	case nUnary:
		of, ok := workOut(nodes, n.kids[0])
		got := unary(n.op, of)
		return got.value, ok && got.code == 0
	case nAnd, nOr, nBinary:
		return workOutTwo(nodes, n)
	}
	return value{}, false
}

func workOutTwo(nodes []node, n node) (value, bool) {
	left, leftOk := workOut(nodes, n.kids[0])
	right, rightOk := workOut(nodes, n.kids[1])
	if !leftOk || !rightOk {
		return value{}, false
	}
	if n.kind == nBinary {
		got := binary(n.op, left, right)
		return got.value, got.code == 0
	}
	if truth(left) == (n.kind == nOr) {
		return left, true
	}
	return right, true
}
