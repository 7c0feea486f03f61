package check

import (
	"slices"
	"strings"

	"gusset/api"
	"gusset/exports"
	"gusset/link"
	"gusset/sub"
)

// A program is the outermost view: what all modules see alike.
type program struct {
	linked  api.Linked
	signs   api.Signs
	members map[exported]member
}

// exported is a name under which a module may export something.
type exported struct {
	mod  int
	name string
}

// A member is what a namespace has under a name, if it has it.
type member struct {
	is  bool
	has api.Type
}

func newProgram(l api.Linked, s api.Signs) *program {
	return &program{linked: l, signs: s, members: map[exported]member{}}
}

// fits tells whether a type may stand for another one.
func (p *program) fits(a, b api.Type) bool {
	return sub.Sub(a, b, p.signs.Classes)
}

// fitsKind tells it of a type that is its kind alone.
func (p *program) fitsKind(a api.Type, kind int) bool {
	return p.fits(a, api.Type{Kind: kind})
}

// signed is what Signs have of a module's top; any, if they have nothing there.
func (p *program) signed(mod int, name string) api.Type {
	if mod < 0 || mod >= len(p.signs.Tops) {
		return anything()
	}
	slots := p.signs.Tops[mod]
	at, ok := slices.BinarySearchFunc(slots, name, func(s api.Slot, name string) int { return strings.Compare(s.Name, name) })
	if !ok {
		return anything()
	}
	return slots[at].Type
}

// led is the type of what was found.
func (p *program) led(f api.Found) api.Type {
	switch f.Kind {
	case api.FoundSpace:
		return api.Type{Kind: api.TypeSpace, N: f.Mod}
	case api.FoundOne:
		return p.signed(f.Mod, f.Name)
	}
	return anything()
}

// memberOf is the type of what another one has under a name.
func (p *program) memberOf(t api.Type, name string) (api.Type, bool) {
	if t.Kind != api.TypeSpace {
		return sub.Member(t, name, p.signs.Classes)
	}
	m := p.exported(exported{t.N, name})
	return m.has, m.is
}

// exported keeps what it was told: a module may have as many exports as it is asked for them.
func (p *program) exported(e exported) member {
	m, asked := p.members[e]
	if asked {
		return m
	}
	f := exports.Resolve(p.linked.Entries, e.mod, e.name)
	if link.Value(p.linked, f) {
		m = member{is: true, has: p.led(f)}
	}
	p.members[e] = m
	return m
}

// classParams are the parameters of a class.
func (p *program) classParams(class int) []api.Type {
	if class < 0 || class >= len(p.signs.Classes) {
		return nil
	}
	return p.signs.Classes[class].Params
}

func anything() api.Type {
	return api.Type{Kind: api.TypeAny}
}
