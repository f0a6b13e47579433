package impl

import (
	"math"
	"strconv"
	"strings"
)

const maxStr = 4000

// The kinds of values.
const (
	kNil = iota
	kBool
	kInt
	kFlt
	kStr
	kTable
	kFn
	kTask
	kBuiltin
)

// The numbers of the operations. The last two are no operations on values: they may leave their second operand alone.
const (
	opAdd = iota + 1
	opSub
	opMul
	opDiv
	opIDiv
	opMod
	opAnd
	opOr
	opXor
	opShl
	opShr
	opJoin
	opEq
	opNe
	opLt
	opLe
	opGt
	opGe
	opNeg
	opFlip
	opNot
	opLen
	opBoth
	opEither
)

// The codes of errors.
const (
	errType = iota + 1
	errZero
	errRange
	errLong
	errKey
	errCall
	errIndex
	errDepth
	errCells
	errTask
	errLoop
	errArgs
	errStep = 14
)

// What compare answers beside -1, 0 and 1.
const (
	unordered    = 2
	incomparable = 3
)

// value is a value of the language. The fields that its kind does not use are zero.
type value struct {
	kind int
	num  int64
	flt  float64
	str  string
	ref  thing
}

// valued is a value, or the code of why there is none.
type valued struct {
	code  int
	value value
}

func boolValue(is bool) value {
	if is {
		return value{kind: kBool, num: 1}
	}
	return value{kind: kBool}
}

func intValue(num int64) value { return value{kind: kInt, num: num} }

func floatValue(flt float64) value { return value{kind: kFlt, flt: flt} }

func strValue(str string) value { return value{kind: kStr, str: str} }

func given(v value) valued { return valued{value: v} }

func failed(code int) valued { return valued{code: code} }

func (v value) isNumber() bool { return v.kind == kInt || v.kind == kFlt }

// float is a number as a float, rounded when it has to be.
func (v value) float() float64 {
	if v.kind == kInt {
		return float64(v.num)
	}
	return v.flt
}

// key is what a value is as a key of a table: whole floats are keys as ints.
func key(v value) valued {
	switch {
	case v.kind == kNil, math.IsNaN(v.flt):
		return failed(errKey)
	case v.kind == kFlt && v.flt >= -1<<63 && v.flt < 1<<63 && v.flt == math.Floor(v.flt):
		return given(intValue(int64(v.flt)))
	}
	return given(v)
}

func truth(v value) bool { return v.kind != kNil && !(v.kind == kBool && v.num == 0) }

func same(a, b value) bool {
	if a.isNumber() && b.isNumber() {
		return compareNumbers(a, b) == 0
	}
	return a == b
}

func compare(a, b value) int {
	switch {
	case a.isNumber() && b.isNumber():
		return compareNumbers(a, b)
	case a.kind == kStr && b.kind == kStr:
		return strings.Compare(a.str, b.str)
	}
	return incomparable
}

func compareNumbers(a, b value) int {
	switch {
	case a.kind == kInt && b.kind == kInt:
		return order(a.num < b.num, a.num > b.num)
	case a.kind == kInt:
		return compareIntFloat(a.num, b.flt)
	case b.kind == kInt:
		turned := compareIntFloat(b.num, a.flt)
		if turned == unordered {
			return unordered
		}
		return -turned
	case math.IsNaN(a.flt) || math.IsNaN(b.flt):
		return unordered
	}
	return order(a.flt < b.flt, a.flt > b.flt)
}

func order(less, greater bool) int {
	switch {
	case less:
		return -1
	case greater:
		return 1
	}
	return 0
}

// compareIntFloat makes no float of the int: that could round it.
func compareIntFloat(num int64, flt float64) int {
	switch {
	case math.IsNaN(flt):
		return unordered
	case flt >= 1<<63:
		return -1
	case flt < -1<<63:
		return 1
	}
	floor := math.Floor(flt)
	whole := int64(floor)
	return order(num < whole || num == whole && flt > floor, num > whole)
}

// binary works out an operation of two valid values.
func binary(op int, a, b value) valued {
	switch {
	case op >= opEq && op <= opNe:
		return given(boolValue(same(a, b) == (op == opEq)))
	case op >= opLt && op <= opGe:
		return ordered(op, compare(a, b))
	case op == opJoin:
		return join(a, b)
	case a.kind == kInt && b.kind == kInt && op != opDiv:
		return binaryInts(op, a.num, b.num)
	case a.isNumber() && b.isNumber():
		return binaryFloats(op, a.float(), b.float())
	}
	return failed(errType)
}

func ordered(op int, found int) valued {
	var is bool
	switch op {
	case opLt:
		is = found == -1
	case opLe:
		is = found == -1 || found == 0
	case opGt:
		is = found == 1
	case opGe:
		is = found == 1 || found == 0
	}
	if found == incomparable {
		return failed(errType)
	}
	return given(boolValue(is))
}

func join(a, b value) valued {
	if a.kind != kStr && !a.isNumber() || b.kind != kStr && !b.isNumber() {
		return failed(errType)
	}
	joined := textOf(a) + textOf(b)
	if len(joined) > maxStr {
		return failed(errLong)
	}
	return given(strValue(joined))
}

func binaryInts(op int, a, b int64) valued {
	switch op {
	case opAdd:
		return given(intValue(a + b))
	case opSub:
		return given(intValue(a - b))
	case opMul:
		return given(intValue(a * b))
	case opIDiv, opMod:
		return divideInts(op, a, b)
	case opAnd:
		return given(intValue(a & b))
	case opOr:
		return given(intValue(a | b))
	case opXor:
		return given(intValue(a ^ b))
	case opShl, opShr:
		return shift(op, a, b)
	}
	return failed(errType)
}

func divideInts(op int, a, b int64) valued {
	if b == 0 {
		return failed(errZero)
	}
	floor := a / b
	if a%b != 0 && (a < 0) != (b < 0) {
		floor--
	}
	if op == opMod {
		return given(intValue(a - b*floor))
	}
	return given(intValue(floor))
}

func shift(op int, a, b int64) valued {
	switch {
	case b < 0:
		return failed(errRange)
	case b > 63:
		return given(intValue(0))
	case op == opShl:
		return given(intValue(a << b))
	}
	return given(intValue(int64(uint64(a) >> b)))
}

// binaryFloats rounds each step by itself: the conversions keep a machine from joining two steps into one.
func binaryFloats(op int, a, b float64) valued {
	switch op {
	case opAdd:
		return given(floatValue(a + b))
	case opSub:
		return given(floatValue(a - b))
	case opMul:
		return given(floatValue(a * b))
	case opDiv:
		return given(floatValue(a / b))
	case opIDiv:
		return given(floatValue(math.Floor(float64(a / b))))
	case opMod:
		floor := math.Floor(float64(a / b))
		return given(floatValue(a - float64(floor*b)))
	}
	return failed(errType)
}

// unary works out an operation of one valid value.
func unary(op int, v value) valued {
	switch {
	case op == opNot:
		return given(boolValue(!truth(v)))
	case op == opNeg && v.kind == kInt:
		return given(intValue(-v.num))
	case op == opNeg && v.kind == kFlt:
		return given(floatValue(math.Copysign(v.flt, negatedSign(v.flt))))
	case op == opFlip && v.kind == kInt:
		return given(intValue(^v.num))
	case op == opLen && v.kind == kStr:
		return given(intValue(int64(len(v.str))))
	}
	return failed(errType)
}

func negatedSign(flt float64) float64 {
	if math.Signbit(flt) {
		return 1
	}
	return -1
}

// textOf is a value as a text: of a float one that tells all its bits.
func textOf(v value) string {
	switch v.kind {
	case kNil:
		return "nil"
	case kBool:
		if v.num == 1 {
			return "true"
		}
		return "false"
	case kInt:
		return strconv.FormatInt(v.num, 10)
	case kFlt:
		return floatText(v.flt)
	case kStr:
		return v.str
	case kTable:
		return "table"
	case kFn:
		return "fn"
	case kTask:
		return "task"
	}
	return "builtin"
}

func floatText(flt float64) string {
	switch {
	case math.IsNaN(flt):
		return "nan"
	case math.IsInf(flt, 1):
		return "inf"
	case math.IsInf(flt, -1):
		return "-inf"
	case flt == 0 && math.Signbit(flt):
		return "-0p0"
	case flt == 0:
		return "0p0"
	}
	fraction, exponent := math.Frexp(flt)
	whole := int64(math.Ldexp(fraction, 53))
	exponent -= 53
	for whole%2 == 0 {
		whole /= 2
		exponent++
	}
	return strconv.FormatInt(whole, 10) + "p" + strconv.Itoa(exponent)
}
