package impl

// The kinds of tokens. They are fewer than 64, so that a set of them is one word.
const (
	tEnd = iota
	tBroken
	tName
	tInt
	tFlt
	tStr
	tSep

	tAnd
	tBreak
	tCatch
	tConst
	tDefer
	tElif
	tElse
	tFalse
	tFn
	tFor
	tIf
	tIn
	tLet
	tNext
	tNil
	tNot
	tOr
	tReturn
	tThrow
	tTrue
	tTry
	tWhile

	tOpen
	tClose
	tBegin
	tFinish
	tSquare
	tUnquare
	tComma
	tIs
	tDot
	tRest
	tLen

	// From here on in the order of the operations' numbers.
	tAdd
	tSub
	tMul
	tDiv
	tIDiv
	tMod
	tBitAnd
	tBitOr
	tBitXor
	tShl
	tShr
	tJoin
	tEq
	tNe
	tLt
	tLe
	tGt
	tGe
)

// spelled is how the tokens are written that are always written alike.
var spelled = [...]string{
	tSep: ";",
	tAnd: "and", tBreak: "break", tCatch: "catch", tConst: "const", tDefer: "defer", tElif: "elif",
	tElse: "else", tFalse: "false", tFn: "fn", tFor: "for", tIf: "if", tIn: "in", tLet: "let",
	tNext: "next", tNil: "nil", tNot: "not", tOr: "or", tReturn: "return", tThrow: "throw",
	tTrue: "true", tTry: "try", tWhile: "while",
	tOpen: "(", tClose: ")", tBegin: "{", tFinish: "}", tSquare: "[", tUnquare: "]",
	tComma: ",", tIs: "=", tDot: ".", tRest: "...", tLen: "#",
	tAdd: "+", tSub: "-", tMul: "*", tDiv: "/", tIDiv: "//", tMod: "%", tBitAnd: "&", tBitOr: "|",
	tBitXor: "~", tShl: "<<", tShr: ">>", tJoin: "..", tEq: "==", tNe: "~=", tLt: "<", tLe: "<=",
	tGt: ">", tGe: ">=",
}

const remark = "--"

// token is one token of a text. A tBroken is the beginning of one that cannot go on: to is the place of the byte that
// cannot stand there, like the kind that it might have become.
type token struct {
	kind  int
	from  int
	to    int
	line  int
	fresh bool // a newline stands between the token ahead and this one
	like  int
	num   int64
	text  string
}

// kindSet is a set of kinds of tokens.
type kindSet uint64

const (
	prefixKinds kindSet = 1<<tNot | 1<<tSub | 1<<tLen | 1<<tBitXor
	infixKinds  kindSet = 1<<tAnd | 1<<tOr | (1<<(tGe+1) - 1<<tAdd)
	unitKinds   kindSet = prefixKinds | 1<<tName | 1<<tOpen | 1<<tInt | 1<<tFlt | 1<<tStr | 1<<tNil | 1<<tTrue |
		1<<tFalse | 1<<tRest | 1<<tFn | 1<<tBegin
	statKinds kindSet = 1<<tLet | 1<<tConst | 1<<tFn | 1<<tIf | 1<<tWhile | 1<<tFor | 1<<tBreak | 1<<tNext |
		1<<tReturn | 1<<tTry | 1<<tThrow | 1<<tDefer | 1<<tBegin | 1<<tName | 1<<tOpen
)

func (s kindSet) has(kind int) bool { return s>>kind&1 == 1 }

func isLetter(b byte) bool {
	return 'a' <= b && b <= 'z' || 'A' <= b && b <= 'Z' || b == '_'
}

func isDigit(b byte) bool { return '0' <= b && b <= '9' }

func isHexDigit(b byte) bool { return isDigit(b) || 'a' <= b && b <= 'f' }

func hexValue(b byte) byte {
	if isDigit(b) {
		return b - '0'
	}
	return b - 'a' + 10
}
