package tree

import (
	"regexp"
	"slices"
	"strconv"
	"strings"
	"testing"

	"gusset/api"
)

// 5.1: of each kind that the section Forms has, a whole tree; the parts that stand within others alone have no form.
func TestFormOfEachKind(t *testing.T) {
	kinds := map[int]int{}
	for _, x := range samples() {
		kinds[x.tree.Kind]++
		isForm(t, x.in(x.tree), x.form)
		if told(x.in(x.tree)) != told(x.tree) {
			isForm(t, x.tree, api.FormNone)
		}
	}
	if len(kinds) != 51 {
		t.Errorf("there are samples of %d kinds", len(kinds))
	}
	for _, kind := range noKinds() {
		if kinds[kind] != 0 {
			t.Errorf("%d is a kind", kind)
		}
		isForm(t, nd(kind, ""), api.FormNone)
	}
}

// 5.1: the chapter's examples.
func TestFormExamples(t *testing.T) {
	let := nd(api.Let, "a$1", none, num(1))
	isForm(t, num(5), api.FormExpr)
	isForm(t, num(-1), api.FormNone)
	isForm(t, nd(api.Num, "x"), api.FormNone)
	isForm(t, name("if"), api.FormNone)
	isForm(t, params, api.FormNone)
	isForm(t, nd(api.Module, ""), api.FormModule)
	isForm(t, nd(api.Module, "", let), api.FormNone)
	isForm(t, nd(api.Script, "", let), api.FormScript)
}

// 5.1: a module and a script that have all that they may have.
func TestFormOfEverything(t *testing.T) {
	isForm(t, everything(), api.FormModule)
	isForm(t, bundle(), api.FormScript)
	for _, n := range everything().Kids {
		f := api.FormItem
		if n.Kind == api.If {
			f = api.FormStmt
		}
		isForm(t, n, f)
	}
}

// formIf is a form, or none.
func formIf(whole bool, form int) int {
	if whole {
		return form
	}
	return api.FormNone
}

// 5.1: of each kind the texts that it may have, and others.
func TestFormTexts(t *testing.T) {
	for _, x := range samples() {
		for _, s := range texts() {
			n := x.tree
			n.Text = s.text
			isForm(t, x.in(n), formIf(s.is(x.text), x.form))
		}
	}
}

// 5.1: of each kind the numbers that it may have, and others.
func TestFormNumbers(t *testing.T) {
	for _, x := range samples() {
		for _, i := range []int{-1 << 63, -2, -1, 0, 1, 2, 3, 1<<53 - 1, 1 << 53, 1<<53 + 1, 1<<63 - 1} {
			isForm(t, x.in(withN(x.tree, i)), formIf(0 <= i && i <= x.most, x.form))
		}
	}
}

// kidsOf are the sorts of the kids that a sample must have, and of those that it may have.
func (x sample) kidsOf() (must []string, may string) {
	for _, s := range strings.Fields(x.kids) {
		if sort, ok := strings.CutSuffix(s, "*"); ok {
			return must, sort
		}
		must = append(must, s)
	}
	return must, ""
}

// representatives are trees that may be handed in as kids: one of each kind, whole, and named unlike all in the samples; and some of no kind.
func representatives() []api.Node {
	var l []api.Node
	for _, x := range samples() {
		n := x.tree
		if n.Text == "x" {
			n.Text = "r"
		}
		l = append(l, n)
	}
	for _, kind := range noKinds() {
		l = append(l, nd(kind, ""))
	}
	return l
}

// 5.1: of each kind the kids that it may have in each place: of a kind that may stand there, and of all others; one too few; one too many.
func TestFormKids(t *testing.T) {
	sorts := groups()
	for _, x := range samples() {
		must, may := x.kidsOf()
		if len(must) != len(x.tree.Kids) {
			t.Fatalf("%s is no sample of %q", told(x.tree), x.kids)
		}
		for _, kid := range representatives() {
			for i, sort := range must {
				isForm(t, x.in(with1(x.tree, i, kid)), formIf(slices.Contains(sorts[sort], kid.Kind), x.form))
			}
			isForm(t, x.in(with(x.tree, append(slices.Clone(x.tree.Kids), kid)...)), formIf(slices.Contains(sorts[may], kid.Kind), x.form))
		}
		for i := range must {
			isForm(t, x.in(with(x.tree, x.tree.Kids[:i]...)), api.FormNone)
			isForm(t, x.in(with(x.tree, slices.Delete(slices.Clone(x.tree.Kids), i, i+1)...)), api.FormNone)
		}
	}
}

// 5.1: a tree is whole only if all in it is, however deep.
func TestFormWithin(t *testing.T) {
	for _, whole := range []api.Node{everything(), bundle()} {
		for i := range Size(whole) {
			for _, spoil := range []func(*api.Node){
				func(n *api.Node) { n.Kind = 0 },
				func(n *api.Node) { n.Kind = 99 },
				func(n *api.Node) { n.N = -1 },
				func(n *api.Node) { n.Text = "\xff" },
				func(n *api.Node) { n.Kids = append(slices.Clone(n.Kids), api.Node{}) },
			} {
				n, _ := At(whole, i)
				spoil(&n)
				spoilt, _ := Replace(whole, i, n)
				isForm(t, spoilt, api.FormNone)
			}
		}
	}
}

// named is a part with the name, whole of its kind.
func named(kind int, s string) api.Node {
	for _, x := range samples() {
		if x.tree.Kind == kind {
			x.tree.Text = s
			return x.tree
		}
	}
	return api.Node{}
}

// 5.1: names that must be unlike: of Params, of a TypeObject, of a class's fields and methods.
func TestFormUnlike(t *testing.T) {
	for _, x := range []struct {
		form  int
		in    func(...api.Node) api.Node
		parts []int
	}{
		{api.FormExpr, func(l ...api.Node) api.Node { return inFunc(nd(api.Params, "", l...)) }, []int{api.Param}},
		{api.FormType, func(l ...api.Node) api.Node { return nd(api.TypeObject, "", l...) }, []int{api.TypeProp}},
		{api.FormItem, func(l ...api.Node) api.Node { return nd(api.Class, "C", l...) }, []int{api.Field, api.Method}},
	} {
		for i, a := range x.parts {
			for _, b := range x.parts[i:] {
				isForm(t, x.in(named(a, "a"), named(b, "b")), x.form)
				isForm(t, x.in(named(a, "a"), named(b, "A")), x.form)
				isForm(t, x.in(named(a, "a"), named(b, "a_")), x.form)
				isForm(t, x.in(named(a, "a"), named(b, "ä")), x.form)
				isForm(t, x.in(named(a, "a"), named(b, "a")), api.FormNone)
				isForm(t, x.in(named(a, "ä$"), named(b, "ä$")), api.FormNone)
				isForm(t, x.in(named(a, "c"), named(a, "b"), named(b, "c")), api.FormNone)
				isForm(t, x.in(named(a, "b"), named(a, "c"), named(b, "c")), api.FormNone)
				isForm(t, x.in(named(a, "c"), named(b, "b"), named(b, "c")), api.FormNone)
				isForm(t, x.in(named(a, "c"), named(b, "b"), named(b, "d")), x.form)
			}
		}
	}
}

// 5.1: so it is of the Params of all that have some.
func TestFormUnlikeParams(t *testing.T) {
	twice := nd(api.Params, "", named(api.Param, "a"), named(api.Param, "a"))
	typed := nd(api.Params, "", nd(api.Param, "a", typ("T")), nd(api.Param, "a", typ("U")))
	for _, n := range []api.Node{twice, typed} {
		isForm(t, nd(api.Func, "", n, none, block), api.FormNone)
		isForm(t, nd(api.Function, "f", n, none, block), api.FormNone)
		isForm(t, inClass(nd(api.Ctor, "", n, block)), api.FormNone)
		isForm(t, inClass(nd(api.Method, "m", n, none, block)), api.FormNone)
		isForm(t, nd(api.TypeFunc, "", n, typ("T")), api.FormNone)
	}
}

// 5.1: names that may stand twice: those of an Object, of a Space, of ones, of what a Block or a module declares; and names of different things.
func TestFormTwice(t *testing.T) {
	twice := func(n api.Node) []api.Node { return []api.Node{n, n} }
	let := nd(api.Let, "a", none, num(1))
	isForm(t, nd(api.Object, "", twice(nd(api.Prop, "a", num(1)))...), api.FormExpr)
	isForm(t, inScript(nd(api.Space, "s", twice(nd(api.SpaceOne, "a", name("b")))...)), api.FormScript)
	isForm(t, nd(api.Import, "./m", twice(nd(api.ImportOne, "a", name("b")))...), api.FormItem)
	isForm(t, nd(api.Import, "./m", twice(nd(api.ImportOne, "default", name("b")))...), api.FormItem)
	isForm(t, nd(api.ExportFrom, "./m", twice(nd(api.ExportOne, "a", name("b")))...), api.FormItem)
	isForm(t, nd(api.TypeUnion, "", twice(typ("T"))...), api.FormType)
	isForm(t, nd(api.Block, "", twice(let)...), api.FormStmt)
	isForm(t, nd(api.Module, "", twice(let)...), api.FormModule)
	isForm(t, nd(api.Script, "", twice(let)...), api.FormScript)
	isForm(t, nd(api.Script, "", twice(nd(api.Space, "s"))...), api.FormScript)
	isForm(t, nd(api.Function, "a", nd(api.Params, "", named(api.Param, "a")), none, nd(api.Block, "", let)), api.FormStmt)
	isForm(t, nd(api.Class, "a", nd(api.Field, "a", none, num(1))), api.FormItem)
}

// sequences are all rows of at most n of the letters.
func sequences(letters string, n int) []string {
	l := []string{""}
	for begin := 0; n > 0; n-- {
		end := len(l)
		for _, s := range l[begin:end] {
			for _, c := range letters {
				l = append(l, s+string(c))
			}
		}
		begin = end
	}
	return l
}

// 5.1: a class has its Fields, then one Ctor or none, then its Methods.
func TestFormClassOrder(t *testing.T) {
	kinds := map[rune]int{'F': api.Field, 'C': api.Ctor, 'M': api.Method}
	order := regexp.MustCompile(`^F*C?M*$`)
	for _, s := range sequences("FCM", 5) {
		class := nd(api.Class, "C")
		for i, c := range s {
			m := named(kinds[c], "m"+strconv.Itoa(i))
			if c == 'C' {
				m.Text = ""
			}
			class.Kids = append(class.Kids, m)
		}
		isForm(t, class, formIf(order.MatchString(s), api.FormItem))
		isForm(t, nd(api.Export, "", class), formIf(order.MatchString(s), api.FormItem))
	}
}

// ones are ImportOnes or ExportOnes: a is an identifier, i a word, d default.
func ones(kind int, s string, kid api.Node) []api.Node {
	var l []api.Node
	for _, c := range s {
		text := string(c)
		switch c {
		case 'i':
			text = "if"
		case 'd':
			text = "default"
		}
		l = append(l, nd(kind, text, kid))
	}
	return l
}

// 5.1: an Import's * stands alone, or behind one default; of types alone there is one name at least, and no *.
func TestFormImport(t *testing.T) {
	wants := []*regexp.Regexp{regexp.MustCompile(`^([aid]*|d?\*)$`), regexp.MustCompile(`^[aid]+$`), regexp.MustCompile(`^no$`)}
	for _, s := range sequences("aid*", 4) {
		for i, want := range wants {
			for _, request := range []string{"./m", "", "*", "ä $\n"} {
				n := withN(nd(api.Import, request, ones(api.ImportOne, s, name("b"))...), i)
				isForm(t, n, formIf(want.MatchString(s), api.FormItem))
			}
			isForm(t, withN(nd(api.Import, "\xff", ones(api.ImportOne, s, name("b"))...), i), api.FormNone)
		}
	}
}

// 5.1: an ExportFrom has one name at least; a * stands alone, with a request, of values; without a request the names there are identifiers.
func TestFormExportFrom(t *testing.T) {
	here := []*regexp.Regexp{regexp.MustCompile(`^a+$`), regexp.MustCompile(`^a+$`), regexp.MustCompile(`^no$`)}
	there := []*regexp.Regexp{regexp.MustCompile(`^([aid]+|\*)$`), regexp.MustCompile(`^[aid]+$`), regexp.MustCompile(`^no$`)}
	for _, s := range sequences("aid*", 4) {
		for i := range here {
			for _, exported := range []api.Node{none, name("b"), name("else")} {
				l := ones(api.ExportOne, s, exported)
				isForm(t, withN(nd(api.ExportFrom, "", l...), i), formIf(here[i].MatchString(s), api.FormItem))
				isForm(t, withN(nd(api.ExportFrom, "./m", l...), i), formIf(there[i].MatchString(s), api.FormItem))
				isForm(t, withN(nd(api.ExportFrom, "*", l...), i), formIf(there[i].MatchString(s), api.FormItem))
				isForm(t, withN(nd(api.ExportFrom, "\xff", l...), i), api.FormNone)
			}
		}
	}
}

// 5.1: the Name of an ExportOne is a property name, and another one than its Text.
func TestFormExportedName(t *testing.T) {
	for _, there := range []string{"a", "if", "default", "*", "constructor"} {
		for _, s := range texts() {
			n := inExport(nd(api.ExportOne, there, name(s.text)))
			isForm(t, n, formIf(s.is("prop") && s.text != there, api.FormItem))
		}
		for _, bad := range []api.Node{withN(name("b"), 1), nd(api.Name, "b", num(1)), nd(api.Name, "if", none), nd(api.None, "b"), withN(none, 1), with(none, none), nd(api.Text, "b"), nd(api.TypeName, "b")} {
			isForm(t, inExport(nd(api.ExportOne, there, bad)), api.FormNone)
		}
	}
	isForm(t, nd(api.ExportFrom, "", nd(api.ExportOne, "a", name("if"))), api.FormItem)
	isForm(t, nd(api.ExportFrom, "", nd(api.ExportOne, "a", name("a"))), api.FormNone)
}

// 5.1: the Name of an ImportOne and of a SpaceOne is an identifier, the same as its Text or not.
func TestFormNamesOfOnes(t *testing.T) {
	for _, there := range []string{"a", "if", "default"} {
		for _, s := range texts() {
			isForm(t, inImport(nd(api.ImportOne, there, name(s.text))), formIf(s.is("id"), api.FormItem))
			isForm(t, inSpace(nd(api.SpaceOne, there, name(s.text))), formIf(s.is("id"), api.FormScript))
		}
	}
	isForm(t, inImport(nd(api.ImportOne, "*", name("*"))), api.FormNone)
}

// 5.1: the params of a TypeFunc have types, each; those of others may have some.
func TestFormTypedParams(t *testing.T) {
	typed, bare := nd(api.Param, "a", typ("T")), nd(api.Param, "b", none)
	other := nd(api.Param, "c", nd(api.TypeFunc, "", nd(api.Params, "", typed), typ("T")))
	for _, l := range [][]api.Node{{}, {typed}, {bare}, {typed, other}, {typed, bare}, {bare, typed}, {other, typed, bare}} {
		p := nd(api.Params, "", l...)
		isForm(t, inFunc(p), api.FormExpr)
		lacks := slices.ContainsFunc(l, func(n api.Node) bool { return Same(n, bare) })
		isForm(t, nd(api.TypeFunc, "", p, typ("T")), formIf(!lacks, api.FormType))
	}
}

// 5.1: a TypeUnion has no TypeUnion for a kid, but deeper ones may be.
func TestFormUnion(t *testing.T) {
	union := nd(api.TypeUnion, "", typ("a"), typ("b"))
	isForm(t, nd(api.TypeUnion, "", nd(api.TypeArray, "", union), nd(api.TypeFunc, "", params, union), nd(api.TypeObject, "", nd(api.TypeProp, "p", union))), api.FormType)
	isForm(t, nd(api.TypeUnion, "", typ("a"), typ("b"), union), api.FormNone)
	isForm(t, nd(api.TypeUnion, "", union, typ("a")), api.FormNone)
	isForm(t, nd(api.TypeUnion, "", typ("a")), api.FormNone)
	isForm(t, nd(api.TypeUnion, ""), api.FormNone)
}

// 5.1: within a module no identifier and no property name has a $; elsewhere they may; other texts may anywhere.
func TestFormDollar(t *testing.T) {
	module, script := everything(), bundle()
	for i, n := range All(module) {
		if n.Text == "" || n.Text == "*" || n.Kind == api.Unary || n.Kind == api.Binary {
			continue
		}
		want := api.FormNone
		if n.Kind == api.Text || n.Kind == api.Import || n.Kind == api.ExportFrom {
			want = api.FormModule
		}
		for _, s := range []string{n.Text + "$", "$" + n.Text, "$", n.Text + "$1", "a$b"} {
			n.Text = s
			m, _ := Replace(module, i, n)
			isForm(t, m, want)
		}
	}
	for i, n := range All(script) {
		if n.Text == "" || n.Kind == api.Unary || n.Kind == api.Binary {
			continue
		}
		n.Text += "$7"
		m, _ := Replace(script, i, n)
		isForm(t, m, api.FormScript)
	}
	for _, x := range samples() {
		if strings.Contains("id prop member prop* typename", x.text) && x.text != "" {
			x.tree.Text = "$a$"
			isForm(t, x.in(x.tree), x.form)
		}
	}
}

// 5.1: which items stand in a module, and which in a script.
func TestFormItems(t *testing.T) {
	for _, x := range samples() {
		f := Form(x.tree)
		item := f == api.FormStmt || f == api.FormItem
		isForm(t, nd(api.Module, "", x.tree), formIf(item, api.FormModule))
		isForm(t, nd(api.Module, "", num(1), x.tree), api.FormNone)
		isForm(t, nd(api.Module, "", x.tree, x.tree), formIf(item, api.FormModule))
		inScripts := f == api.FormStmt || x.tree.Kind == api.Class || x.tree.Kind == api.Space
		isForm(t, nd(api.Script, "", x.tree), formIf(inScripts, api.FormScript))
		isForm(t, nd(api.Block, "", x.tree), formIf(f == api.FormStmt, api.FormStmt))
	}
}

// 5.4: an expression in an expression's place leaves a whole tree whole, but where a Name alone may stand.
func TestFormAnyExpression(t *testing.T) {
	for _, whole := range []api.Node{everything(), bundle()} {
		form := Form(whole)
		at := 0
		var walk func(n api.Node, parent, i int)
		walk = func(n api.Node, parent, i int) {
			here := at
			at++
			nameAlone := slices.Contains([]int{api.ImportOne, api.ExportOne, api.SpaceOne}, parent)
			if Form(n) == api.FormExpr {
				for _, x := range samples() {
					if Form(x.tree) != api.FormExpr {
						continue
					}
					want := form
					if nameAlone && x.tree.Kind != api.Name {
						want = api.FormNone
					}
					if target := parent == api.Assign && i == 0; target && !slices.Contains([]int{api.Name, api.Member, api.Index}, x.tree.Kind) {
						want = api.FormNone
					}
					m, _ := Replace(whole, here, x.tree)
					isForm(t, m, want)
				}
			}
			for i, k := range n.Kids {
				walk(k, n.Kind, i)
			}
		}
		walk(whole, 0, 0)
	}
}

// 5.4, R3, R5: a form hangs on the tree alone: asked again, of a copy, and with lists that are empty instead of none.
func TestFormAgain(t *testing.T) {
	for _, n := range []api.Node{everything(), bundle()} {
		f := Form(n)
		for range 20 {
			isForm(t, n, f)
		}
		isForm(t, Copy(n), f)
		isForm(t, emptied(n), f)
	}
}

// emptied is n, its lists of nothing being empty ones that have room.
func emptied(n api.Node) api.Node {
	kids := make([]api.Node, 0, len(n.Kids)+1)
	for _, k := range n.Kids {
		kids = append(kids, emptied(k))
	}
	n.Kids = kids
	return n
}

// R1: very many kids and names.
func TestFormWide(t *testing.T) {
	const many = 1 << 16
	p, o, c, b := nd(api.Params, ""), nd(api.TypeObject, ""), nd(api.Class, "C"), nd(api.Block, "")
	for i := range many {
		s := "a" + strconv.Itoa(i)
		p.Kids = append(p.Kids, nd(api.Param, s, none))
		o.Kids = append(o.Kids, nd(api.TypeProp, s, typ("T")))
		c.Kids = append(c.Kids, nd(api.Field, s, none, num(1)))
		b.Kids = append(b.Kids, nd(api.Expr, "", name(s)))
	}
	for _, twice := range []bool{false, true} {
		if twice {
			p.Kids[many-1].Text, o.Kids[many-1].Text, c.Kids[many-1].Text, b.Kids[many-1].Text = "a0", "a0", "a0", "x"
		}
		for i, n := range []api.Node{inFunc(p), o, c, b} {
			want := formIf(!twice, []int{api.FormExpr, api.FormType, api.FormItem, api.FormStmt}[i])
			if f := Form(n); f != want {
				t.Errorf("Form of %d parts of %d: %d, want %d", many, n.Kind, f, want)
			}
		}
	}
	long := strings.Repeat("ä", 1<<20)
	isForm(t, name(long), api.FormExpr)
	if f := Form(name(long + "×")); f != api.FormNone {
		t.Errorf("Form of a long name: %d", f)
	}
}
