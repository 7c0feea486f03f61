package exports

import (
	"fmt"
	"math/rand"
	"slices"
	"testing"

	"gusset/api"
)

// A wordAsker is 12.2's asking, word for word; of each pair it has whether it is asked still, and how often it came as far as the third rule.
type wordAsker struct {
	l      []api.Entries
	still  map[question]bool
	passed map[question]int
}

func isLed(f api.Found) bool {
	return f.Kind == api.FoundOne || f.Kind == api.FoundSpace
}

func (w *wordAsker) ask(m int, n string) api.Found {
	q := question{m, n}
	if m < 0 || m >= len(w.l) {
		return api.Found{Kind: api.FoundNone}
	}
	if w.still[q] {
		return api.Found{Kind: api.FoundCircular}
	}
	if w.passed[q] > 0 {
		return api.Found{Kind: api.FoundNone}
	}
	w.passed[q]++
	w.still[q] = true
	f := w.rules(m, n)
	w.still[q] = false
	return f
}

// rules are the third and those behind it.
func (w *wordAsker) rules(m int, n string) api.Found {
	for _, e := range w.l[m].Own {
		if e.There == n {
			return api.Found{Kind: api.FoundOne, Mod: m, Name: e.Here, Type: e.Type}
		}
	}
	for _, e := range w.l[m].Others {
		if e.Here != n {
			continue
		}
		f := api.Found{Kind: api.FoundSpace, Mod: e.Mod}
		if e.There != "*" {
			f = w.ask(e.Mod, e.There)
		}
		if isLed(f) && e.Type {
			f.Type = true
		}
		return f
	}
	if n == "default" {
		return api.Found{}
	}
	return w.stars(m, n)
}

func (w *wordAsker) stars(m int, n string) api.Found {
	var led []api.Found
	circular := false
	for _, e := range w.l[m].Stars {
		f := w.ask(e.Mod, n)
		switch {
		case f.Kind == api.FoundAmbiguous:
			return f
		case isLed(f):
			led = append(led, f)
		case f.Kind == api.FoundCircular:
			circular = true
		}
	}
	for i := range led {
		if led[i].Kind != led[0].Kind || led[i].Mod != led[0].Mod || led[i].Name != led[0].Name {
			return api.Found{Kind: api.FoundAmbiguous}
		}
		if !led[i].Type {
			led[0].Type = false
		}
	}
	if len(led) > 0 {
		return led[0]
	}
	if circular {
		return api.Found{Kind: api.FoundCircular}
	}
	return api.Found{}
}

func byWords(l []api.Entries, m int, n string) api.Found {
	w := &wordAsker{l, map[question]bool{}, map[question]int{}}
	return w.ask(m, n)
}

// A step is where one pair leads: to others, or to a binding.
type step struct {
	to      []question
	binding api.Found
}

func stepOf(e api.Entries, q question) step {
	for _, one := range e.Own {
		if one.There == q.name {
			return step{binding: api.Found{Kind: api.FoundOne, Mod: q.mod, Name: one.Here}}
		}
	}
	for _, one := range e.Others {
		if one.Here == q.name && one.There == "*" {
			return step{binding: api.Found{Kind: api.FoundSpace, Mod: one.Mod}}
		}
		if one.Here == q.name {
			return step{to: []question{{one.Mod, one.There}}}
		}
	}
	var s step
	for _, one := range e.Stars {
		if q.name != "default" {
			s.to = append(s.to, question{one.Mod, q.name})
		}
	}
	return s
}

// byReach tells what an export leads to (but for Type) by what can be reached from it, in no order: of several bindings it is ambiguous, of none it is circular if there is a circle.
func byReach(l []api.Entries, m int, n string) api.Found {
	steps := map[question]step{}
	bindings := map[api.Found]bool{}
	for left := []question{{m, n}}; len(left) > 0; {
		q := left[0]
		left = left[1:]
		if _, was := steps[q]; was || q.mod < 0 || q.mod >= len(l) {
			continue
		}
		s := stepOf(l[q.mod], q)
		steps[q] = s
		left = append(left, s.to...)
		if s.binding.Kind != api.FoundNone {
			bindings[s.binding] = true
		}
	}
	if len(bindings) > 1 {
		return api.Found{Kind: api.FoundAmbiguous}
	}
	for b := range bindings {
		return b
	}
	if round(steps) {
		return api.Found{Kind: api.FoundCircular}
	}
	return api.Found{}
}

// round tells whether some are left when again and again all that lead to none are taken away.
func round(steps map[question]step) bool {
	for {
		var ends []question
		for q, s := range steps {
			if !slices.ContainsFunc(s.to, func(to question) bool { _, is := steps[to]; return is }) {
				ends = append(ends, q)
			}
		}
		if len(ends) == 0 {
			return len(steps) > 0
		}
		for _, q := range ends {
			delete(steps, q)
		}
	}
}

// namesByWords is 12.3, word for word.
func namesByWords(l []api.Entries, mod int) []string {
	if mod < 0 || mod >= len(l) {
		return nil
	}
	led := map[int]bool{}
	for range l {
		for from := range l {
			if from == mod || led[from] {
				for _, s := range l[from].Stars {
					led[s.Mod] = true
				}
			}
		}
	}
	var names []string
	add := func(m int, n string) {
		if (m == mod || led[m] && n != "default") && isLed(byWords(l, mod, n)) && !slices.Contains(names, n) {
			names = append(names, n)
		}
	}
	for m, e := range l {
		for _, one := range e.Own {
			add(m, one.There)
		}
		for _, one := range e.Others {
			add(m, one.Here)
		}
	}
	slices.Sort(names)
	return names
}

// held holds what names of each module lead to, and its Names, against the words; what is answered is counted.
func held(t *testing.T, l []api.Entries, names []string, count map[string]int) {
	t.Helper()
	for mod := -1; mod <= len(l); mod++ {
		for _, name := range names {
			got, want := Resolve(l, mod, name), byWords(l, mod, name)
			if got != want {
				t.Fatalf("%+v: %s of %d leads to %v, want %v", l, name, mod, got, want)
			}
			count[fmt.Sprint(got.Kind, got.Type)]++
			got.Type = false
			if want := byReach(l, mod, name); got != want {
				t.Fatalf("%+v: %s of %d leads to %v, but %v is reached", l, name, mod, got, want)
			}
		}
		if got, want := Names(l, mod), namesByWords(l, mod); !slices.Equal(got, want) {
			t.Fatalf("%+v: %d has the names %q, want %q", l, mod, got, want)
		}
	}
}

// met tells whether just these answers, a kind and whether it has Type each, were met, and each often.
func met(t *testing.T, count map[string]int, least int, answers ...string) {
	t.Helper()
	for _, a := range answers {
		if count[a] < least {
			t.Errorf("only %d answers %s", count[a], a)
		}
	}
	if len(count) != len(answers) {
		t.Error(count)
	}
}

// someStars are all rows of up to most stars to n modules.
func someStars(n, most int) [][]api.Entry {
	all := [][]api.Entry{nil}
	for from := 0; most > 0; most-- {
		to := len(all)
		for _, row := range all[from:to] {
			for mod := range n {
				all = append(all, append(slices.Clone(row), api.Entry{Mod: mod}))
			}
		}
		from = to
	}
	return all
}

// oneOther are all of one entry of Others of n modules: x and y by x and y there, or by a namespace.
func oneOther(n int, types []bool) [][]api.Entry {
	all := [][]api.Entry{nil}
	for mod := range n {
		for _, names := range [][2]string{{"x", "x"}, {"x", "y"}, {"y", "x"}, {"x", "*"}} {
			for _, is := range types {
				all = append(all, []api.Entry{{Here: names[0], There: names[1], Mod: mod, Type: is}})
			}
		}
	}
	return all
}

// allOf are all rows of n of some modules.
func allOf(n int, choices []api.Entries, each func([]api.Entries)) {
	l := make([]api.Entries, n)
	var fill func(int)
	fill = func(at int) {
		if at == n {
			each(l)
			return
		}
		for _, e := range choices {
			l[at] = e
			fill(at + 1)
		}
	}
	fill(0)
}

// 12.2, 12.3, T8: all of two modules with up to one own, one other and two stars.
func TestSmallTwo(t *testing.T) {
	var choices []api.Entries
	for _, own := range [][]api.Entry{nil, {{Here: "x", There: "x", Mod: -1}}, {{Here: "z", There: "y", Mod: -1, Type: true}}} {
		for _, others := range oneOther(2, []bool{false, true}) {
			for _, stars := range someStars(2, 2) {
				choices = append(choices, api.Entries{Own: own, Others: others, Stars: stars})
			}
		}
	}
	count := map[string]int{}
	allOf(2, choices, func(l []api.Entries) { held(t, l, []string{"x", "y"}, count) })
	met(t, count, 10000, "0 false", "1 false", "1 true", "2 false", "2 true", "4 false")
}

// 12.2, 12.3, T8: all of three modules of which each has an own one, an other, or up to two stars, or an other and one star.
func TestSmallThree(t *testing.T) {
	choices := []api.Entries{
		{Own: []api.Entry{{Here: "x", There: "x", Mod: -1}}},
		{Own: []api.Entry{{Here: "x", There: "x", Mod: -1}, {Here: "x", There: "y", Mod: -1, Type: true}}},
	}
	for _, others := range oneOther(3, []bool{false}) {
		choices = append(choices, api.Entries{Others: others})
	}
	for _, stars := range someStars(3, 2) {
		choices = append(choices, api.Entries{Stars: stars})
	}
	for mod := range 3 {
		for star := range 3 {
			choices = append(choices, api.Entries{Others: []api.Entry{{Here: "y", There: "x", Mod: mod, Type: true}}, Stars: []api.Entry{{Mod: star}}})
		}
	}
	count := map[string]int{}
	allOf(3, choices, func(l []api.Entries) { held(t, l, []string{"x", "y"}, count) })
	met(t, count, 100, "0 false", "1 false", "1 true", "2 false", "2 true", "3 false", "4 false")
}

var someNames = []string{"x", "y", "z", "default"}

// made are entries of modules by chance, the same of the same number: few or many of each list; some lead to no module, some stand twice.
func made(seed int64) []api.Entries {
	r := rand.New(rand.NewSource(seed))
	n := 1 + r.Intn(9)
	l := make([]api.Entries, n)
	owns, others, stars, types, far := r.Intn(3), r.Intn(4), r.Intn(4), 1+r.Intn(4), 1+r.Intn(20)
	target := func() int {
		if r.Intn(20) < 1 && far == 1 {
			return pick(r, -1, n, n+3)
		}
		return r.Intn(n)
	}
	for i := range l {
		e := &l[i]
		for range r.Intn(owns + 1) {
			e.Own = append(e.Own, api.Entry{Here: pick(r, "p", "q"), There: pick(r, someNames...), Mod: -1, Type: r.Intn(types) == 0, Item: r.Intn(9)})
		}
		for range r.Intn(others + 1) {
			e.Others = append(e.Others, api.Entry{Here: pick(r, someNames...), There: pick(r, "x", "y", "z", "default", "x", "y", "*"), Mod: target(), Type: r.Intn(types) == 0, Item: r.Intn(9)})
		}
		for range r.Intn(stars + 1) {
			e.Stars = append(e.Stars, api.Entry{Mod: target(), Item: r.Intn(9)})
		}
	}
	return l
}

// 12.2, 12.3, T8: made entries, with all kinds of answers.
func TestMade(t *testing.T) {
	count := map[string]int{}
	for seed := range int64(12000) {
		held(t, made(seed), append(someNames, "none", "p", ""), count)
	}
	met(t, count, 1000, "0 false", "1 false", "1 true", "2 false", "2 true", "3 false", "4 false")
}

// T8: in another order of stars an export leads to the same, but that it may be of types alone, or not.
func TestOrderOfStars(t *testing.T) {
	changed, types := 0, 0
	for seed := range int64(12000) {
		l := made(seed)
		other := slices.Clone(l)
		r := rand.New(rand.NewSource(-seed))
		for i, e := range other {
			other[i].Stars = slices.Clone(e.Stars)
			r.Shuffle(len(e.Stars), func(j, k int) {
				other[i].Stars[j], other[i].Stars[k] = other[i].Stars[k], other[i].Stars[j]
			})
			if !slices.Equal(other[i].Stars, e.Stars) {
				changed++
			}
		}
		for mod := range l {
			for _, name := range someNames {
				a, b := Resolve(l, mod, name), Resolve(other, mod, name)
				if a.Type != b.Type {
					types++
				}
				a.Type, b.Type = false, false
				if a != b {
					t.Fatalf("%+v: %s of %d leads to %v, in another order to %v", l, name, mod, a, b)
				}
			}
			if a, b := Names(l, mod), Names(other, mod); !slices.Equal(a, b) {
				t.Fatalf("%+v: %d has the names %q, in another order %q", l, mod, a, b)
			}
		}
	}
	if changed < 5000 || types < 10 {
		t.Error(changed, "other orders,", types, "other types")
	}
}

// moved is l with the module i at the place that to says, all entries with it.
func moved(l []api.Entries, to []int) []api.Entries {
	at := func(list []api.Entry) []api.Entry {
		list = slices.Clone(list)
		for i, e := range list {
			if e.Mod >= 0 && e.Mod < len(to) {
				list[i].Mod = to[e.Mod]
			}
		}
		return list
	}
	other := make([]api.Entries, len(l))
	for i, e := range l {
		other[to[i]] = api.Entries{Own: e.Own, Others: at(e.Others), Stars: at(e.Stars)}
	}
	return other
}

// 12.4: in another order of modules an export leads to the same; so it is with stars too, as theirs is kept.
func TestOrderOfModules(t *testing.T) {
	for seed := range int64(6000) {
		l := made(seed)
		if seed%2 == 0 {
			for i := range l {
				l[i].Stars = nil
			}
		}
		to := rand.New(rand.NewSource(-seed)).Perm(len(l))
		other := moved(l, to)
		for mod := range l {
			for _, name := range someNames {
				a, b := Resolve(l, mod, name), Resolve(other, to[mod], name)
				if isLed(a) && a.Mod >= 0 && a.Mod < len(l) {
					a.Mod = to[a.Mod]
				}
				if a != b {
					t.Fatalf("%+v: %s of %d leads to %v, in the order %v to %v", l, name, mod, a, to, b)
				}
			}
			if a, b := Names(l, mod), Names(other, to[mod]); !slices.Equal(a, b) {
				t.Fatalf("%+v: %d has the names %q, in the order %v %q", l, mod, a, to, b)
			}
		}
	}
}

// 12.4: a name that a module has by itself stands ahead of all stars; default comes through none.
func TestOwnAhead(t *testing.T) {
	for seed := range int64(4000) {
		l := made(seed)
		for mod, e := range l {
			bare := slices.Clone(l)
			bare[mod].Stars = nil
			for _, name := range someNames {
				has := func(give func(api.Entry) string) func(api.Entry) bool {
					return func(one api.Entry) bool { return give(one) == name }
				}
				own := slices.ContainsFunc(e.Own, has(func(one api.Entry) string { return one.There }))
				other := slices.ContainsFunc(e.Others, has(func(one api.Entry) string { return one.Here }))
				if got := Resolve(l, mod, name); own && got != Resolve(bare, mod, name) {
					t.Fatalf("%+v: %s of %d leads to %v", l, name, mod, got)
				} else if name == "default" && !own && !other && got != (api.Found{}) {
					t.Fatalf("%+v: default of %d leads to %v", l, mod, got)
				}
			}
		}
	}
}
