package impl

import (
	"fmt"
	"math/rand"
	"reflect"
	"strconv"
	"strings"
	"testing"
)

// unquoted takes the quote with which a line begins, and gives what it stands for and what follows.
func unquoted(line string) (string, string) {
	var b []byte
	for i := 1; i < len(line); i++ {
		switch {
		case line[i] == '"':
			return string(b), line[i+1:]
		case line[i] != '\\':
			b = append(b, line[i])
			continue
		}
		i++
		switch line[i] {
		case 'n':
			b = append(b, '\n')
		case 't':
			b = append(b, '\t')
		case 'x':
			n, err := strconv.ParseUint(line[i+1:i+3], 16, 8)
			if err != nil {
				panic(err)
			}
			b = append(b, byte(n))
			i += 2
		default:
			b = append(b, line[i])
		}
	}
	panic("a quote has no end: " + line)
}

// allUnquoted takes quotes, each with a space ahead, up to the end of a line.
func allUnquoted(line string) []string {
	var list []string
	for line != "" {
		var s string
		s, line = unquoted(strings.TrimPrefix(line, " "))
		list = append(list, s)
	}
	return list
}

// readBack is the report that was told.
func readBack(text string) (Report, error) {
	lines := strings.Split(strings.TrimSuffix(text, "\n"), "\n")
	recs, end, costs := lines[:len(lines)-2], lines[len(lines)-2], lines[len(lines)-1]
	var r Report
	for _, line := range recs {
		var rec Rec
		var name string
		if _, err := fmt.Sscanf(line, "%d %d %d %s ", &rec.Task, &rec.Fn, &rec.Line, &name); err != nil {
			return r, err
		}
		kinds := []string{"", "line", "call", "back", "throw", "catch", "print", "turn", "last"}
		for kind := range kinds {
			if kinds[kind] == name {
				rec.Kind = kind
			}
		}
		var rest string
		rec.Text, rest = unquoted(line[strings.IndexByte(line, '"'):])
		if rest != "" {
			return r, fmt.Errorf("behind the text of a record: %q", rest)
		}
		r.Recs = append(r.Recs, rec)
	}
	if quotes, ok := strings.CutPrefix(end, "returned"); ok {
		r.Vals = allUnquoted(quotes)
	} else if quotes, ok := strings.CutPrefix(end, "error"); ok {
		list := allUnquoted(quotes)
		r.Code, r.Error, r.Trace = 1, list[0], list[1]
		r.Vals = append(r.Vals, list[2:]...)
	} else if end == "no more ticks" {
		r.Code = 2
	} else {
		return r, fmt.Errorf("no end: %q", end)
	}
	_, err := fmt.Sscanf(costs, "%d ticks %d cells", &r.Ticks, &r.Made)
	return r, err
}

func TestTellingsAreOfTheSecondMachine(t *testing.T) {
	codes, kinds := map[int]int{}, map[int]int{}
	for seed := int64(1); seed <= 2000; seed++ {
		text := anyProgram(seed)
		checked, u := unitOf(text)
		if checked.Code != 0 {
			continue
		}
		in := anyAllowance(rand.New(rand.NewSource(seed)))
		in.Args = []string{"\"p\\", "q\n\t\x00\x7f\xff"}
		want, _ := run2(u, in)
		got, err := readBack(Told(text, in))
		if err != nil || !reflect.DeepEqual(got, want) {
			t.Fatalf("%s\n%v\ntold %v\nnot  %v", text, err, got, want)
		}
		codes[got.Code]++
		for _, r := range got.Recs {
			kinds[r.Kind]++
		}
	}
	t.Log(codes, kinds)
	if len(codes) != 3 || len(kinds) != 8 {
		t.Errorf("the programs are too much alike: %v %v", codes, kinds)
	}
}

// Each code and each kind of record has a name of its own.
func TestNamesThatAreTold(t *testing.T) {
	seen := map[string]bool{}
	for _, names := range [][]string{faultNames[codeForm:], recNames[RecLine:], endNames[:]} {
		for i, name := range names {
			if name == "" || seen[name] {
				t.Errorf("%d has the name %q", i, name)
			}
			seen[name] = true
		}
	}
	if len(faultNames) != codeNoConst+1 || len(recNames) != RecLast+1 || len(endNames) != endNoRun {
		t.Error(len(faultNames), len(recNames), len(endNames))
	}
}
