package impl

import (
	"math/rand"
	"reflect"
	"testing"
)

// linesOf and fnsOf count in the records of a run, without any map.
func linesOf(recs []Rec) []LineCount {
	last := 0
	for _, r := range recs {
		last = max(last, r.Line)
	}
	var list []LineCount
	for line := 1; line <= last; line++ {
		c := LineCount{Line: line}
		for _, r := range recs {
			if r.Kind == RecLine && r.Line == line {
				c.Count++
			}
		}
		if c.Count > 0 {
			list = append(list, c)
		}
	}
	return list
}

func fnsOf(u unit, recs []Rec) []FnCount {
	list := make([]FnCount, len(u.fns))
	list[0].Calls = 1
	for i := range list {
		list[i].Fn, list[i].Line = i, u.fns[i].line
	}
	for _, r := range recs {
		switch r.Kind {
		case RecCall:
			list[r.Fn].Calls++
		case RecLine:
			list[r.Fn].Self++
		}
	}
	return list
}

func TestCountsAreThoseOfTheSecondMachine(t *testing.T) {
	codes, calls, idle := map[int]int{}, 0, 0
	for seed := int64(1); seed <= 2000; seed++ {
		text := anyProgram(seed)
		checked, u := unitOf(text)
		if checked.Code != 0 {
			continue
		}
		in := anyAllowance(rand.New(rand.NewSource(seed)))
		report, _ := run2(u, in)
		if got, want := Lines(text, in), linesOf(report.Recs); !reflect.DeepEqual(got, want) {
			t.Fatalf("%s\nlines %v\nnot   %v", text, got, want)
		}
		got, want := Fns(text, in), fnsOf(u, report.Recs)
		if !reflect.DeepEqual(got, want) {
			t.Fatalf("%s\nfns %v\nnot %v", text, got, want)
		}
		codes[report.Code]++
		for _, c := range want[1:] {
			calls += c.Calls
			if c.Calls == 0 {
				idle++
			}
		}
	}
	t.Log(codes, calls, idle)
	if codes[0] == 0 || codes[1] == 0 || codes[2] == 0 || calls == 0 || idle == 0 {
		t.Errorf("the programs are too much alike: %v, %d calls, %d fns never called", codes, calls, idle)
	}
}
