package exports

import "gusset/api"

// A question is the name that a module is asked for.
type question struct {
	mod  int
	name string
}

// A place is that of an entry in its module: in Own, or in Others, and its number there.
type place struct {
	own    bool
	number int
}

// A book finds the entries by which modules give names. One that is asked for a single name is looked through; as it may be asked for as many as it has, and more, it is written into the book at the second one.
type book struct {
	modules []api.Entries
	asked   map[int]int // how often a module was, until it is written
	given   map[question]place
}

func newBook(l []api.Entries) *book {
	return &book{modules: l, asked: map[int]int{}, given: map[question]place{}}
}

func (b *book) has(mod int) bool {
	return mod >= 0 && mod < len(b.modules)
}

// find tells the first of Own that gives the name, or else the first of Others.
func (b *book) find(q question) (place, bool) {
	if b.asked[q.mod] == 0 {
		b.asked[q.mod] = 1
		return look(b.modules[q.mod], q.name)
	}
	if b.asked[q.mod] == 1 {
		b.asked[q.mod] = 2
		b.write(q.mod)
	}
	at, has := b.given[q]
	return at, has
}

func look(e api.Entries, name string) (place, bool) {
	for i, one := range e.Own {
		if one.There == name {
			return place{true, i}, true
		}
	}
	for i, one := range e.Others {
		if one.Here == name {
			return place{false, i}, true
		}
	}
	return place{}, false
}

func (b *book) write(mod int) {
	for i, one := range b.modules[mod].Own {
		b.writeFirst(question{mod, one.There}, place{true, i})
	}
	for i, one := range b.modules[mod].Others {
		b.writeFirst(question{mod, one.Here}, place{false, i})
	}
}

func (b *book) writeFirst(q question, at place) {
	if _, has := b.given[q]; !has {
		b.given[q] = at
	}
}

// names are those that a module's entries give, its stars left out.
func (b *book) names(mod int) []string {
	var l []string
	for _, one := range b.modules[mod].Own {
		l = append(l, one.There)
	}
	for _, one := range b.modules[mod].Others {
		l = append(l, one.Here)
	}
	return l
}

// starred are a module and all to which stars lead from it.
func (b *book) starred(mod int) []int {
	if !b.has(mod) {
		return nil
	}
	reached := make([]bool, len(b.modules))
	reached[mod] = true
	l := []int{mod}
	for i := 0; i < len(l); i++ {
		for _, star := range b.modules[l[i]].Stars {
			if b.has(star.Mod) && !reached[star.Mod] {
				reached[star.Mod] = true
				l = append(l, star.Mod)
			}
		}
	}
	return l
}
