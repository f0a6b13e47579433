package impl

const (
	maxParts     = 3000
	maxNest      = 100
	maxKids      = 200
	maxName      = 40
	maxLine      = 100000
	maxFloatText = 40
)

// sound tells whether a tree that was made from a text is neither too large nor too deep; it cannot be wrong otherwise.
func sound(root part) bool {
	s := survey{}
	return s.visit(root, 0) && s.parts <= maxParts
}

type survey struct{ parts int }

func (s *survey) visit(p part, depth int) bool {
	s.parts++
	kids := p.kids()
	if depth > maxNest || s.parts > maxParts || len(kids) > maxKids || !partFits(p) {
		return false
	}
	for _, kid := range kids {
		if !s.visit(kid, depth+1) {
			return false
		}
	}
	return true
}

func partFits(p part) bool {
	held := names(p)
	for _, name := range held {
		if len(name) > maxName {
			return false
		}
	}
	if lit, ok := p.(*literalPart); ok && (len(lit.value.str) > maxStr || len(lit.text) > maxFloatText) {
		return false
	}
	return len(held) <= maxKids && p.place().line <= maxLine
}
