package impl

import "strings"

const MaxText = 65536

// Checked is whether a text is one of the language, and if not, why, and where.
type Checked struct {
	Code   int
	At     int
	Line   int
	Column int
}

// The codes of Checked.
const (
	codeForm = iota + 1
	codeLarge
	codeNoName
	codeNotWritten
	codeNoLoop
	codeNoRest
	codeNoConst
)

func Check(text string) Checked {
	checked, _ := unitOf(text)
	return checked
}

// unitOf is the unit of a text whose Code is 0.
func unitOf(text string) (Checked, unit) {
	if len(text) > MaxText {
		return Checked{Code: codeLarge}, unit{}
	}
	tree := parse(text)
	if !tree.ok {
		return checkedAt(text, codeForm, tree.at), unit{}
	}
	if !sound(tree.root) {
		return Checked{Code: codeLarge}, unit{}
	}
	made := lower(tree.root)
	if made.code != 0 {
		return checkedAt(text, made.code, made.at), unit{}
	}
	if !made.unit.fits() {
		return Checked{Code: codeLarge}, unit{}
	}
	return Checked{}, made.unit
}

func checkedAt(text string, code, at int) Checked {
	ahead := text[:at]
	return Checked{
		Code:   code,
		At:     at,
		Line:   strings.Count(ahead, "\n") + 1,
		Column: at - strings.LastIndexByte(ahead, '\n'),
	}
}

func Tidied(text string) string {
	tree := parse(text)
	if !tree.ok || !sound(tree.root) {
		return ""
	}
	tidy := printed(tree.root)
	if len(tidy) > MaxText {
		return ""
	}
	return tidy
}
