package impl

import (
	"iter"
	"strconv"
	"strings"
)

// maxHexDigits is how many digits of four bits make 64.
const maxHexDigits = 16

// tokens goes through the tokens of a text. The last one is a tEnd or a tBroken: nothing can be told of what stands
// behind a token that cannot go on.
func tokens(text string) iter.Seq[token] {
	return func(yield func(token) bool) {
		s := scanner{text: text, line: 1}
		for {
			t := s.next()
			if !yield(t) || t.kind == tEnd || t.kind == tBroken {
				return
			}
		}
	}
}

type scanner struct {
	text string
	at   int
	line int
}

// peek answers 0 behind the end: no token goes on with that byte, but a string, which asks for the end itself.
func (s *scanner) peek(ahead int) byte {
	if s.at+ahead < len(s.text) {
		return s.text[s.at+ahead]
	}
	return 0
}

func (s *scanner) next() token {
	fresh := s.skipBlanks()
	t := token{from: s.at, line: s.line, fresh: fresh}
	b := s.peek(0)
	switch {
	case s.at == len(s.text):
		return s.ended(t, tEnd)
	case isLetter(b):
		return s.word(t)
	case isDigit(b):
		return s.number(t)
	case b == '"':
		return s.quoted(t)
	}
	return s.sign(t)
}

func (s *scanner) ended(t token, kind int) token {
	t.kind, t.to = kind, s.at
	return t
}

func (s *scanner) broken(t token, like int) token {
	t.like = like
	return s.ended(t, tBroken)
}

func (s *scanner) skipBlanks() (fresh bool) {
	for s.at < len(s.text) {
		switch b := s.text[s.at]; {
		case b == ' ' || b == '\t' || b == '\r':
			s.at++
		case b == '\n':
			s.at++
			s.line++
			fresh = true
		case strings.HasPrefix(s.text[s.at:], remark):
			s.skipRemark()
		default:
			return fresh
		}
	}
	return fresh
}

func (s *scanner) skipRemark() {
	if n := strings.IndexByte(s.text[s.at:], '\n'); n >= 0 {
		s.at += n
	} else {
		s.at = len(s.text)
	}
}

func (s *scanner) word(t token) token {
	for isLetter(s.peek(0)) || isDigit(s.peek(0)) {
		s.at++
	}
	t.text = s.text[t.from:s.at]
	for kind := tAnd; kind <= tWhile; kind++ {
		if t.text == spelled[kind] {
			return s.ended(t, kind)
		}
	}
	return s.ended(t, tName)
}

func (s *scanner) sign(t token) token {
	found := tBroken
	for kind := tSep; kind <= tGe; kind++ {
		sign := spelled[kind]
		if len(sign) > len(spelled[found]) && strings.HasPrefix(s.text[s.at:], sign) {
			found = kind
		}
	}
	s.at += len(spelled[found])
	return s.ended(t, found)
}

func (s *scanner) digits() {
	for isDigit(s.peek(0)) {
		s.at++
	}
}

func (s *scanner) number(t token) token {
	if strings.HasPrefix(s.text[s.at:], "0x") {
		return s.hexNumber(t)
	}
	whole := true
	if s.peek(0) == '0' {
		s.at++
	} else {
		s.digits()
	}
	if s.peek(0) == '.' && isDigit(s.peek(1)) {
		whole = false
		s.at++
		s.digits()
	}
	if s.peek(0) == 'e' {
		whole = false
		if !s.exponent() {
			return s.broken(t, tFlt)
		}
	}
	t.text = s.text[t.from:s.at]
	if num, err := strconv.ParseInt(t.text, 10, 64); whole && err == nil {
		t.num = num
		return s.ended(t, tInt)
	}
	return s.ended(t, tFlt)
}

func (s *scanner) exponent() bool {
	s.at++
	if s.peek(0) == '+' || s.peek(0) == '-' {
		s.at++
	}
	if !isDigit(s.peek(0)) {
		return false
	}
	s.digits()
	return true
}

func (s *scanner) hexNumber(t token) token {
	s.at += len("0x")
	count := 0
	for ; isHexDigit(s.peek(0)); count++ {
		if count == maxHexDigits {
			return s.broken(t, tInt)
		}
		t.num = t.num<<4 | int64(hexValue(s.peek(0)))
		s.at++
	}
	if count == 0 {
		return s.broken(t, tInt)
	}
	return s.ended(t, tInt)
}

func (s *scanner) quoted(t token) token {
	var bytes []byte
	s.at++
	for s.at < len(s.text) {
		if s.text[s.at] == '"' {
			s.at++
			t.text = string(bytes)
			return s.ended(t, tStr)
		}
		b, ok := s.element()
		if !ok {
			break
		}
		bytes = append(bytes, b)
	}
	return s.broken(t, tStr)
}

// element reads one element of a string; when it is none, at is left at the byte that cannot stand there.
func (s *scanner) element() (byte, bool) {
	b := s.text[s.at]
	if b == '\n' {
		return 0, false
	}
	s.at++
	if b == '\\' {
		return s.escape()
	}
	return b, true
}

func (s *scanner) escape() (byte, bool) {
	b := s.peek(0)
	switch b {
	case 'n':
		b = '\n'
	case 't':
		b = '\t'
	case '"', '\\':
	case 'x':
		s.at++
		return s.hexByte()
	default:
		return 0, false
	}
	s.at++
	return b, true
}

func (s *scanner) hexByte() (byte, bool) {
	var b byte
	for range 2 {
		if !isHexDigit(s.peek(0)) {
			return 0, false
		}
		b = b<<4 | hexValue(s.peek(0))
		s.at++
	}
	return b, true
}

// quote writes a string so that a text has it again from that.
func quote(s string) string {
	const digits = "0123456789abcdef"
	out := []byte{'"'}
	for i := range len(s) {
		switch b := s[i]; {
		case b == '\n':
			out = append(out, `\n`...)
		case b == '\t':
			out = append(out, `\t`...)
		case b == '"' || b == '\\':
			out = append(out, '\\', b)
		case b < 32 || b > 126:
			out = append(out, '\\', 'x', digits[b>>4], digits[b&15])
		default:
			out = append(out, b)
		}
	}
	return string(append(out, '"'))
}
