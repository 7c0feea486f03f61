package exports

import "gusset/api"

// How far a question is; one that was never asked has no state.
const (
	stillAsked = 1 + iota
	wasAsked
)

// An asker asks a question, and those on which its answer hangs. It keeps its way in a list of its own: modules may lead to one another over so many that calls within calls would have no room.
type asker struct {
	book   *book
	states map[question]int
	open   []opened
	answer api.Found
}

// An opened question hangs on what the modules of some entries answer of a name.
type opened struct {
	question question
	left     []api.Entry // those that are to be asked still
	name     string
	types    bool      // what it leads to is so by an entry of types alone
	found    api.Found // what those that were asked come to
}

func (b *book) resolve(q question) api.Found {
	a := &asker{book: b, states: map[question]int{}}
	a.ask(q)
	for len(a.open) > 0 {
		a.goOn()
	}
	return a.answer
}

// ask answers a question, or opens it.
func (a *asker) ask(q question) {
	if !a.book.has(q.mod) {
		a.hand(api.Found{})
		return
	}
	switch a.states[q] {
	case stillAsked:
		a.hand(api.Found{Kind: api.FoundCircular})
	case wasAsked:
		a.hand(api.Found{})
	default:
		a.askFirst(q)
	}
}

// askFirst asks a question that was never asked.
func (a *asker) askFirst(q question) {
	module := a.book.modules[q.mod]
	at, has := a.book.find(q)
	switch {
	case has && at.own:
		e := module.Own[at.number]
		a.end(q, api.Found{Kind: api.FoundOne, Mod: q.mod, Name: e.Here, Type: e.Type})
	case has && module.Others[at.number].There == "*":
		e := module.Others[at.number]
		a.end(q, api.Found{Kind: api.FoundSpace, Mod: e.Mod, Type: e.Type})
	case has:
		e := module.Others[at.number]
		a.begin(opened{question: q, left: module.Others[at.number : at.number+1], name: e.There, types: e.Type})
	case q.name == "default":
		a.end(q, api.Found{})
	default:
		a.begin(opened{question: q, left: module.Stars, name: q.name})
	}
}

func (a *asker) begin(o opened) {
	a.states[o.question] = stillAsked
	a.open = append(a.open, o)
}

func (a *asker) end(q question, f api.Found) {
	a.states[q] = wasAsked
	a.hand(f)
}

// goOn asks what is left of the innermost open question, or ends it.
func (a *asker) goOn() {
	last := len(a.open) - 1
	o := &a.open[last]
	if len(o.left) > 0 {
		next := question{o.left[0].Mod, o.name}
		o.left = o.left[1:]
		a.ask(next)
		return
	}
	q, f := o.question, o.found
	f.Type = f.Type || o.types && leads(f)
	a.open = a.open[:last]
	a.end(q, f)
}

// hand gives an answer to the question that is innermost now; without one it is the whole answer. All that hangs on what is ambiguous is so too, and nothing more is asked.
func (a *asker) hand(f api.Found) {
	last := len(a.open) - 1
	if last >= 0 {
		f = joined(a.open[last].found, f)
		a.open[last].found = f
	}
	if last < 0 || f.Kind == api.FoundAmbiguous {
		a.answer, a.open = f, nil
	}
}

// joined is what two answers come to, of which none is ambiguous.
func joined(a, b api.Found) api.Found {
	switch {
	case b.Kind == api.FoundNone, b.Kind == api.FoundCircular && leads(a):
		return a
	case !leads(a):
		return b
	}
	types := a.Type && b.Type
	a.Type, b.Type = types, types
	if a != b {
		return api.Found{Kind: api.FoundAmbiguous}
	}
	return a
}

// leads tells whether an export leads to anything.
func leads(f api.Found) bool {
	return f.Kind == api.FoundOne || f.Kind == api.FoundSpace
}
