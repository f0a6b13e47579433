package impl

// part is one part of a tree. Its kids stand in the order of the text.
type part interface {
	place() header
	kids() []part
}

// header is where a part begins.
type header struct {
	from int
	line int
}

func (h header) place() header { return h }

// leaf is the header of a part that has no kids.
type leaf struct{ header }

func (leaf) kids() []part { return nil }

type (
	blockPart struct {
		header
		stats []part
	}
	letPart struct {
		header
		names  []string
		values []part
	}
	constPart struct {
		header
		name  string
		value part
	}
	namedFnPart struct {
		header
		name string
		fn   *fnPart
	}
	setPart struct {
		header
		targets []part
		values  []part
	}
	doPart struct {
		header
		call part
	}
	deferPart struct {
		header
		call part
	}
	ifPart struct {
		header
		cond  part
		then  *blockPart
		other part // a *blockPart, an *ifPart or nil
	}
	whilePart struct {
		header
		cond part
		body *blockPart
	}
	forPart struct {
		header
		name   string
		bounds []part
		body   *blockPart
	}
	eachPart struct {
		header
		names []string
		over  part
		body  *blockPart
	}
	breakPart  struct{ leaf }
	nextPart   struct{ leaf }
	returnPart struct {
		header
		values []part
	}
	tryPart struct {
		header
		body    *blockPart
		names   []string
		handler *blockPart
	}
	throwPart struct {
		header
		value part
	}
)

type (
	// literalPart has a text only when it is a float: that one is written as it was.
	literalPart struct {
		leaf
		value value
		text  string
	}
	restPart struct{ leaf }
	namePart struct {
		leaf
		name string
	}
	prefixPart struct {
		header
		op int
		of part
	}
	infixPart struct {
		header
		op    int
		left  part
		right part
	}
	indexPart struct {
		header
		of  part
		key part
	}
	fieldPart struct {
		header
		of   part
		name string
	}
	callPart struct {
		header
		of   part
		args []part
	}
	tablePart struct {
		header
		entries []part
	}
	itemPart struct {
		header
		value part
	}
	pairPart struct {
		header
		key   part
		value part
	}
	namedPart struct {
		header
		name  string
		value part
	}
	fnPart struct {
		header
		params []string
		rest   bool
		body   *blockPart
	}
	onePart struct {
		header
		of part
	}
)

func (p *blockPart) kids() []part   { return p.stats }
func (p *letPart) kids() []part     { return p.values }
func (p *constPart) kids() []part   { return []part{p.value} }
func (p *namedFnPart) kids() []part { return []part{p.fn} }
func (p *setPart) kids() []part     { return joined(p.targets, p.values...) }
func (p *doPart) kids() []part      { return []part{p.call} }
func (p *deferPart) kids() []part   { return []part{p.call} }
func (p *whilePart) kids() []part   { return []part{p.cond, p.body} }
func (p *forPart) kids() []part     { return joined(p.bounds, p.body) }
func (p *eachPart) kids() []part    { return []part{p.over, p.body} }
func (p *returnPart) kids() []part  { return p.values }
func (p *tryPart) kids() []part     { return []part{p.body, p.handler} }
func (p *throwPart) kids() []part   { return []part{p.value} }
func (p *prefixPart) kids() []part  { return []part{p.of} }
func (p *infixPart) kids() []part   { return []part{p.left, p.right} }
func (p *indexPart) kids() []part   { return []part{p.of, p.key} }
func (p *fieldPart) kids() []part   { return []part{p.of} }
func (p *callPart) kids() []part    { return joined([]part{p.of}, p.args...) }
func (p *tablePart) kids() []part   { return p.entries }
func (p *itemPart) kids() []part    { return []part{p.value} }
func (p *pairPart) kids() []part    { return []part{p.key, p.value} }
func (p *namedPart) kids() []part   { return []part{p.value} }
func (p *fnPart) kids() []part      { return []part{p.body} }
func (p *onePart) kids() []part     { return []part{p.of} }

func (p *ifPart) kids() []part {
	if p.other == nil {
		return []part{p.cond, p.then}
	}
	return []part{p.cond, p.then, p.other}
}

// joined leaves room behind neither list, so that what is appended goes to new memory.
func joined(first []part, further ...part) []part {
	return append(first[:len(first):len(first)], further...)
}

// names are those that a part itself holds.
func names(p part) []string {
	switch p := p.(type) {
	case *letPart:
		return p.names
	case *eachPart:
		return p.names
	case *tryPart:
		return p.names
	case *fnPart:
		return p.params
	case *constPart:
		return []string{p.name}
	case *namedFnPart:
		return []string{p.name}
	case *forPart:
		return []string{p.name}
	case *namePart:
		return []string{p.name}
	case *fieldPart:
		return []string{p.name}
	case *namedPart:
		return []string{p.name}
	}
	return nil
}
