package tests

import (
	"fmt"
	"math"
	"math/rand"
	"reflect"
	"runtime"
	"strings"
	"sync"
	"testing"

	"loop.example/mill/impl"
)

// function is one of the package's, at a text and an input.
type function struct {
	name string
	ask  func(text string, in impl.Input) any
}

func everyFunction() []function {
	list := []function{
		{"Check", func(text string, _ impl.Input) any { return impl.Check(text) }},
		{"Tidied", func(text string, _ impl.Input) any { return impl.Tidied(text) }},
		{"InputOk", func(_ string, in impl.Input) any { return impl.InputOk(in) }},
		{"Run", func(text string, in impl.Input) any { return impl.Run(text, in) }},
		{"Lines", func(text string, in impl.Input) any { return impl.Lines(text, in) }},
		{"Fns", func(text string, in impl.Input) any { return impl.Fns(text, in) }},
		{"Told", func(text string, in impl.Input) any { return impl.Told(text, in) }},
		{"Answer", func(text string, _ impl.Input) any { return impl.Answer(text) }},
	}
	for _, k := range []int{math.MinInt, -1, 0, 1, 7, 30, 99999, math.MaxInt} {
		list = append(list, function{fmt.Sprint("Look ", k), func(text string, in impl.Input) any { return impl.Look(text, in, k) }})
	}
	return list
}

// sample is a text with an input.
type sample struct {
	text string
	in   impl.Input
}

// samples are texts that run and texts that are wrong, each with inputs that are valid and inputs that are not.
func samples() []sample {
	short := ample()
	short.Ticks, short.Depth, short.Cells = 25, 3, 12
	inputs := []impl.Input{ample(), short, answersInput(), {Depth: 1}, {Ticks: 9}}
	texts := append(programs(), "", "return ...", "print(read(), read(), read(), ...)", "throw {...}", "let a, b = ...\nthrow b .. a")
	for _, c := range wrongTexts() {
		if len(c.text) < 100 {
			texts = append(texts, c.text)
		}
	}
	var list []sample
	for _, text := range texts {
		for _, in := range inputs {
			list = append(list, sample{text, in})
		}
	}
	return list
}

// inWriting is an answer in all its parts.
func inWriting(answer any) string { return fmt.Sprintf("%#v", answer) }

// writeOver changes all that an answer holds, its lists up to their capacity.
func writeOver(answer any) {
	v := reflect.New(reflect.TypeOf(answer)).Elem()
	v.Set(reflect.ValueOf(answer))
	writeOverValue(v)
}

func writeOverValue(v reflect.Value) {
	switch v.Kind() {
	case reflect.Struct:
		for i := range v.NumField() {
			writeOverValue(v.Field(i))
		}
	case reflect.Slice:
		whole := v.Slice(0, v.Cap())
		for i := range whole.Len() {
			writeOverValue(whole.Index(i))
		}
	case reflect.String:
		v.SetString("written over")
	case reflect.Int:
		v.SetInt(-4711)
	case reflect.Bool:
		v.SetBool(!v.Bool())
	default:
		panic("an answer holds what no answer can: " + v.Kind().String())
	}
}

// roomy is a copy of an input whose lists have room behind their ends; in all is what lies there too.
func roomy(in impl.Input) (copied impl.Input, all [][]string) {
	for _, list := range []*[]string{&in.Args, &in.Lines} {
		whole := append(append([]string{"ahead"}, *list...), "behind", "and", "more")
		*list = whole[1 : len(whole)-3]
		all = append(all, whole)
	}
	return in, all
}

// Each function is asked twice, with all others and with other arguments in between.
func TestSameArgumentsSameAnswer(t *testing.T) {
	list := samples()
	var first []string
	for _, s := range list {
		for _, f := range everyFunction() {
			first = append(first, inWriting(f.ask(s.text, s.in)))
		}
	}
	functions := everyFunction()
	for i := len(list) - 1; i >= 0; i-- {
		for j := len(functions) - 1; j >= 0; j-- {
			again := inWriting(functions[j].ask(list[i].text, list[i].in))
			if want := first[i*len(functions)+j]; again != want {
				t.Errorf("%s of %.100q %v\nis %.200s, and was %.200s", functions[j].name, list[i].text, list[i].in, again, want)
			}
		}
	}
}

func TestSameAnswersBesideEachOther(t *testing.T) {
	before := runtime.NumGoroutine()
	list, functions := samples(), everyFunction()
	want := make([][]string, len(list))
	for i, s := range list {
		for _, f := range functions {
			want[i] = append(want[i], inWriting(f.ask(s.text, s.in)))
		}
	}
	var all sync.WaitGroup
	for g := range 8 {
		all.Go(func() {
			r := rand.New(rand.NewSource(int64(g)))
			for range 600 {
				i, j := r.Intn(len(list)), r.Intn(len(functions))
				// The arguments are shared by all of them.
				if got := inWriting(functions[j].ask(list[i].text, list[i].in)); got != want[i][j] {
					t.Errorf("%s of %.100q\nis %.200s, not %.200s", functions[j].name, list[i].text, got, want[i][j])
				}
			}
		})
	}
	all.Wait()
	if !settled(before) {
		t.Error("there are goroutines left")
	}
}

func TestNothingIsWrittenIntoAnArgument(t *testing.T) {
	for _, s := range samples() {
		in, all := roomy(s.in)
		text, was, lists := s.text, strings.Clone(s.text), inWriting(all)
		for _, f := range everyFunction() {
			answer := f.ask(text, in)
			// What is written over an answer would be seen in an argument that it shares.
			writeOver(answer)
			if text != was || inWriting(all) != lists {
				t.Fatalf("%s of %.100q has changed what it was given: %v", f.name, was, all)
			}
		}
	}
}

func TestAnswersAreNewMemory(t *testing.T) {
	for _, s := range samples() {
		for _, f := range everyFunction() {
			one, other := f.ask(s.text, s.in), f.ask(s.text, s.in)
			want := inWriting(one)
			writeOver(one)
			if got := inWriting(other); got != want {
				t.Fatalf("%s of %.100q: two answers share memory: %.200s, not %.200s", f.name, s.text, got, want)
			}
			if got := inWriting(f.ask(s.text, s.in)); got != want {
				t.Fatalf("%s of %.100q: what is written over an answer is answered: %.200s, not %.200s", f.name, s.text, got, want)
			}
		}
	}
}

// What a caller does with its lists behind a call is not seen in the answer.
func TestNothingOfAnArgumentIsKept(t *testing.T) {
	for _, s := range samples() {
		for _, f := range everyFunction() {
			in, all := roomy(s.in)
			answer := f.ask(s.text, in)
			want := inWriting(answer)
			for _, list := range all {
				for i := range list {
					list[i] = "\"changed\""
				}
			}
			if got := inWriting(answer); got != want {
				t.Fatalf("%s of %.100q has kept a list: %.200s, not %.200s", f.name, s.text, got, want)
			}
			if got := inWriting(f.ask(s.text, s.in)); got != want {
				t.Fatalf("%s of %.100q, later: %.200s, not %.200s", f.name, s.text, got, want)
			}
		}
	}
}

// steadily asks a function, and tells which one it was if it panics.
func steadily(t *testing.T, f function, text string, in impl.Input) {
	t.Helper()
	defer func() {
		if what := recover(); what != nil {
			t.Errorf("%s of %.200q %v panics: %v", f.name, text, in, what)
		}
	}()
	f.ask(text, in)
}

func TestEveryArgumentHasAnAnswer(t *testing.T) {
	before := runtime.NumGoroutine()
	g := newGrammar()
	r := rand.New(rand.NewSource(12))
	inputs := append(wrongInputs(), ample(), answersInput(), impl.Input{Depth: 1})
	texts := []string{strings.Repeat("\xff", 70000), strings.Repeat("fn f(a) {", 7000), strings.Repeat("let x = {{", 6000)}
	for _, piece := range []string{"(", "{", "[", "print(", "-", "not ", "#", "1 + ", "1 .. ", "x.", "if x {} elif ", "fn() {", "while 1 {", "\"\\", "--", "\n", "0", ";"} {
		texts = append(texts, strings.Repeat(piece, 100), strings.Repeat(piece, impl.MaxText/len(piece)), strings.Repeat(piece, impl.MaxText))
	}
	for range 300 {
		b := make([]byte, r.Intn(40))
		for i := range b {
			b[i] = byte(r.Intn(256))
		}
		texts = append(texts, string(b), anyText(r, g, 0.05), swapped(r, pick(r, programs())))
	}
	for _, text := range texts {
		for _, f := range everyFunction() {
			steadily(t, f, text, inputs[r.Intn(len(inputs))])
		}
	}
	if !settled(before) {
		t.Error("there are goroutines left")
	}
}

// leastLeft is how many goroutines there are just when a call has answered, beyond those before: the least of some calls,
// for one that has done all may need an instant to be gone.
func leastLeft(f function, text string, in impl.Input) int {
	least := math.MaxInt
	for range 50 {
		before := runtime.NumGoroutine()
		f.ask(text, in)
		least = min(least, runtime.NumGoroutine()-before)
		if least <= 0 {
			break
		}
		settled(before)
	}
	return least
}

// All goroutines of a call have ended when it answers, whichever function has run the text.
func TestNoFunctionLeavesAGoroutine(t *testing.T) {
	const text = "fn f(n) {defer print(n); if n > 0 {resume(task(f), n - 1)}; yield(n); while true {}}\nlet k = {}\nfor i = 1, 8 {k[i] = task(f); resume(k[i], 3)}\n"
	for _, end := range []string{"", "return k", "throw k", "resume(k[2])", "giveup(k[2])", "k = nil; collect(); while true {}"} {
		for _, ticks := range []int{0, 3, 40, 100, 250, 5000} {
			in := ample()
			in.Ticks = ticks
			for _, f := range everyFunction() {
				if n := leastLeft(f, text+end, in); n > 0 {
					t.Fatalf("%s leaves %d goroutines of\n%s%s", f.name, n, text, end)
				}
			}
		}
	}
}
