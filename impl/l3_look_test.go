package impl

import (
	"math/rand"
	"reflect"
	"testing"
)

// viewsOf is what stands at each record of a run of the first machine.
func viewsOf(u unit, in Input) []View {
	m := newMachine(u, in)
	var views []View
	m.hook = func(int) error {
		views = append(views, m.running.view())
		return nil
	}
	m.run()
	return views
}

// nameless is a view without the names of its variables.
func nameless(v View) View {
	out := View{Ok: v.Ok, Task: v.Task}
	for _, o := range v.Calls {
		vars := make([]Shown, len(o.Vars))
		for i, s := range o.Vars {
			vars[i] = Shown{Text: s.Text}
		}
		out.Calls = append(out.Calls, Open{o.Fn, o.Line, vars})
	}
	return out
}

// lookAtSome asks Look at some records, and behind the last one.
func lookAtSome(t *testing.T, r *rand.Rand, text string, in Input, views []View) {
	t.Helper()
	for range min(4, len(views)) {
		k := r.Intn(len(views))
		if got := Look(text, in, k); !reflect.DeepEqual(got, views[k]) {
			t.Fatalf("%s\nrecord %d\n%v\n%v", text, k, got, views[k])
		}
	}
	if got := Look(text, in, len(views)); !reflect.DeepEqual(got, View{}) {
		t.Fatalf("%s\nhas no record %d: %v", text, len(views), got)
	}
}

func TestViewsAreThoseOfTheSecondMachine(t *testing.T) {
	seen := map[int]int{}
	for seed := int64(1); seed <= 2000; seed++ {
		text := anyProgram(seed)
		checked, u := unitOf(text)
		if checked.Code != 0 {
			continue
		}
		r := rand.New(rand.NewSource(seed))
		in := anyAllowance(r)
		got := viewsOf(u, in)
		report, want := run2(u, in)
		if len(got) != len(want) {
			t.Fatalf("%d views, not %d of\n%s", len(got), len(want), text)
		}
		for k := range want {
			if !reflect.DeepEqual(got[k], want[k]) {
				t.Fatalf("%s\nrecord %d, %v\n%v\n%v", text, k, report.Recs[k], got[k], want[k])
			}
			seen[report.Recs[k].Kind] += len(want[k].Calls)
		}
		lookAtSome(t, r, text, in, want)
	}
	t.Log(seen)
	for kind := RecLine; kind <= RecLast; kind++ {
		if seen[kind] == 0 {
			t.Errorf("no open calls at a record of kind %d", kind)
		}
	}
}

// A unit that is written down has other names of all its variables but those of named fns.
func TestViewsWithOtherNames(t *testing.T) {
	for seed := int64(5000); seed < 5400; seed++ {
		text := anyProgram(seed)
		checked, u := unitOf(text)
		if checked.Code != 0 {
			continue
		}
		other := written(u)
		_, again := unitOf(other)
		in := anyAllowance(rand.New(rand.NewSource(seed)))
		if got, want := Run(other, in), Run(text, in); !reflect.DeepEqual(got, want) {
			t.Fatalf("%s\nshows something else than\n%s", other, text)
		}
		want, got := viewsOf(u, in), viewsOf(again, in)
		for k := range want {
			if !reflect.DeepEqual(nameless(got[k]), nameless(want[k])) {
				t.Fatalf("%s\nrecord %d\n%v\n%v", text, k, got[k], want[k])
			}
		}
	}
}
