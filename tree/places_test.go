package tree

import (
	"iter"
	"slices"
	"strings"
	"testing"
	"unsafe"

	"gusset/api"
)

// sum is the chapter's: 1 + 2.
func sum() api.Node {
	return nd(api.Binary, "+", num(1), num(2))
}

// odd is a tree that is no whole one: of kinds, texts and numbers that no layer makes, some of its kids the same.
func odd() api.Node {
	leaf := withN(nd(-3, "\xff"), -7)
	return withN(nd(0, "", leaf, nd(999, "x", leaf, nd(5, "", leaf), leaf), leaf, nd(999, "x")), 1<<63-1)
}

func trees() []api.Node {
	return []api.Node{{}, num(5), sum(), odd(), nd(api.Params, ""), nd(api.Call, "", name("f"), sum(), nd(api.Array, ""), sum()), bundle()}
}

// flat are the trees within n in pre-order: what a place is, told by the lists alone.
func flat(n api.Node) []api.Node {
	l := []api.Node{n}
	for _, k := range n.Kids {
		l = append(l, flat(k)...)
	}
	return l
}

// same holds a tree against another one, told in full.
func same(t *testing.T, what string, n, want api.Node) {
	t.Helper()
	if told(n) != told(want) {
		t.Errorf("%s: %.300s, want %.300s", what, told(n), told(want))
	}
}

// 5.2: Same, of trees that are the same and of those in which one thing is otherwise, at whatever place.
func TestSame(t *testing.T) {
	l := trees()
	for i, a := range l {
		for j, b := range l {
			if Same(a, b) != (i == j) {
				t.Errorf("Same of %d and %d: %t", i, j, i != j)
			}
		}
		if !Same(a, emptied(a)) || !Same(emptied(a), a) {
			t.Errorf("a list of nothing is not the same as none in %.200s", told(a))
		}
		for at := range flat(a) {
			for what, change := range []func(*api.Node){
				func(n *api.Node) { n.Kind++ },
				func(n *api.Node) { n.Text += "\x00" },
				func(n *api.Node) { n.N-- },
				func(n *api.Node) { n.Kids = append(n.Kids, api.Node{}) },
				func(n *api.Node) { n.Kids = append([]api.Node{num(77)}, n.Kids...) },
			} {
				b := Copy(a)
				i := 0
				changeAt(&b, &i, at, change)
				if Same(a, b) || Same(b, a) {
					t.Errorf("Same of %.200s with change %d at %d", told(a), what, at)
				}
			}
		}
	}
	if Same(nd(1, "", num(1), num(2)), nd(1, "", num(2), num(1))) || Same(nd(1, "a"), nd(1, "A")) || Same(sum(), nd(api.Binary, "+", num(1))) {
		t.Error("Same of others")
	}
}

// changeAt changes the tree at the place; at counts them.
func changeAt(n *api.Node, at *int, place int, change func(*api.Node)) {
	here := *at
	*at++
	for i := range n.Kids {
		changeAt(&n.Kids[i], at, place, change)
	}
	if here == place {
		change(n)
	}
}

// 5.2: Copy is the same.
func TestCopy(t *testing.T) {
	for _, n := range trees() {
		same(t, "Copy", Copy(n), n)
		same(t, "Copy", Copy(emptied(n)), n)
	}
}

// 5.2: Size and Depth.
func TestSizeAndDepth(t *testing.T) {
	for _, x := range []struct {
		n           api.Node
		size, depth int
	}{
		{api.Node{}, 1, 1},
		{num(5), 1, 1},
		{sum(), 3, 2},
		{nd(api.Unary, "-", nd(api.Unary, "-", num(1))), 3, 3},
		{nd(1, "", sum(), num(1)), 5, 3},
		{nd(1, "", num(1), sum()), 5, 3},
		{nd(1, "", num(1), sum(), num(2)), 6, 3},
		{nd(1, "", nd(2, "", sum()), sum(), nd(3, "", nd(4, ""))), 10, 4},
		{odd(), 9, 4},
		{emptied(sum()), 3, 2},
	} {
		if s, d := Size(x.n), Depth(x.n); s != x.size || d != x.depth {
			t.Errorf("Size and Depth of %s: %d, %d, want %d, %d", told(x.n), s, d, x.size, x.depth)
		}
	}
	for _, n := range trees() {
		if s := Size(n); s != len(flat(n)) {
			t.Errorf("Size of %.200s: %d, want %d", told(n), s, len(flat(n)))
		}
	}
}

// outside are numbers that are no place of a tree of that size.
func outside(size int) []int {
	return []int{-1 << 63, -1<<63 + 1, -size - 1, -size, -2, -1, size, size + 1, 1 << 32, 1<<63 - 2, 1<<63 - 1}
}

// 5.2, 5.4: At, at all places, behind the last one and below zero.
func TestAt(t *testing.T) {
	for _, n := range trees() {
		l := flat(n)
		for i, want := range l {
			m, ok := At(n, i)
			same(t, "At", m, want)
			if !ok {
				t.Errorf("At(%.200s, %d): false", told(n), i)
			}
		}
		for _, i := range outside(len(l)) {
			m, ok := At(n, i)
			same(t, "At of no place", m, api.Node{})
			if ok {
				t.Errorf("At(%.200s, %d): true", told(n), i)
			}
		}
	}
	if m, ok := At(sum(), 2); m.N != 2 || !ok {
		t.Errorf("At of 1 + 2, at 2: %s, %t", told(m), ok)
	}
}

// 5.2, 5.4: Replace, at all places, by a leaf and by a greater tree, behind the last one and below zero.
func TestReplace(t *testing.T) {
	for _, n := range trees() {
		l := flat(n)
		for _, m := range []api.Node{num(88), sum(), {}, odd(), n} {
			for i := range l {
				want := Copy(n)
				at := 0
				changeAt(&want, &at, i, func(x *api.Node) { *x = m })
				got, ok := Replace(n, i, m)
				same(t, "Replace", got, want)
				if !ok {
					t.Errorf("Replace in %.200s at %d: false", told(n), i)
				}
				back, _ := Replace(got, i, l[i])
				same(t, "Replace of what was replaced", back, n)
				if s := Size(got); s != len(l)-len(flat(l[i]))+len(flat(m)) {
					t.Errorf("Size behind Replace in %.200s at %d: %d", told(n), i, s)
				}
			}
			for _, i := range outside(len(l)) {
				got, ok := Replace(n, i, m)
				same(t, "Replace at no place", got, api.Node{})
				if ok {
					t.Errorf("Replace in %.200s at %d: true", told(n), i)
				}
			}
		}
		for i := range l {
			m, _ := At(n, i)
			got, _ := Replace(n, i, m)
			if !Same(got, n) {
				t.Errorf("Replace of At in %.200s at %d: %.200s", told(n), i, told(got))
			}
		}
	}
	got, _ := Replace(sum(), 1, num(9))
	same(t, "Replace", got, nd(api.Binary, "+", num(9), num(2)))
}

// wantWalk holds a walk that is gone over to its end against the places of n.
func wantWalk(t *testing.T, what string, walk iter.Seq2[int, api.Node], n api.Node) {
	t.Helper()
	l := flat(n)
	next := 0
	for at, m := range walk {
		if at != next || at >= len(l) {
			t.Errorf("%s: %d told as place %d of %d", what, at, next, len(l))
			return
		}
		same(t, what, m, l[at])
		next++
	}
	if next != len(l) {
		t.Errorf("%s: %d places, want %d", what, next, len(l))
	}
}

// 5.3, 5.4: All goes over all places, rising, and tells what At does; again and again.
func TestAll(t *testing.T) {
	for _, n := range trees() {
		walk := All(n)
		for range 3 {
			wantWalk(t, "All", walk, n)
		}
		for at, m := range walk {
			if want, ok := At(n, at); !ok || !Same(m, want) {
				t.Errorf("All of %.200s at %d: not as At", told(n), at)
			}
		}
	}
}

// 5.3: a walk may be left at each place, and goes from the beginning then.
func TestAllLeft(t *testing.T) {
	for _, n := range trees() {
		walk := All(n)
		for stop := range flat(n) {
			times := 0
			for at := range walk {
				times++
				if at == stop {
					break
				}
			}
			if times != stop+1 {
				t.Errorf("All of %.200s, left at %d: %d times", told(n), stop, times)
			}
		}
		wantWalk(t, "All behind one that was left", walk, n)
	}
	for range All(sum()) {
		for range All(sum()) {
			return // out of both
		}
	}
	t.Error("All tells nothing")
}

// 5.3: once it is left it calls no more.
func TestAllLeftForGood(t *testing.T) {
	for _, n := range trees() {
		for stop := range flat(n) {
			calls := 0
			All(n)(func(at int, _ api.Node) bool {
				calls++
				return at != stop
			})
			if calls != stop+1 {
				t.Errorf("All of %.200s, left at %d: %d calls", told(n), stop, calls)
			}
		}
	}
}

// 5.3: a walk may be nested in itself, and two may go on by turns.
func TestAllNested(t *testing.T) {
	for _, n := range []api.Node{{}, sum(), odd()} {
		walk := All(n)
		size := len(flat(n))
		outer := 0
		for at := range walk {
			if at != outer {
				t.Errorf("the outer walk is at %d, want %d", at, outer)
			}
			outer++
			wantWalk(t, "the inner walk", walk, n)
		}
		if outer != size {
			t.Errorf("the outer walk has %d places, want %d", outer, size)
		}
		next, stop := iter.Pull2(walk)
		other, stopOther := iter.Pull2(walk)
		for i := range size {
			at, _, ok := next()
			too, m, okToo := other()
			if at != i || too != i || !ok || !okToo {
				t.Errorf("two walks at %d: %d %t, %d %t", i, at, ok, too, okToo)
			}
			same(t, "one of two walks", m, flat(n)[i])
		}
		if _, _, ok := next(); ok {
			t.Error("a walk goes on behind the last place")
		}
		stop()
		stopOther()
	}
}

// A span is a piece of memory.
type span struct {
	begin, end uintptr
}

// spans are all pieces of memory that a tree has, the spare room of its lists too.
func spans(n api.Node) []span {
	var l []span
	if n.Text != "" {
		b := uintptr(unsafe.Pointer(unsafe.StringData(n.Text)))
		l = append(l, span{b, b + uintptr(len(n.Text))})
	}
	if cap(n.Kids) > 0 {
		b := uintptr(unsafe.Pointer(unsafe.SliceData(n.Kids)))
		l = append(l, span{b, b + uintptr(cap(n.Kids))*unsafe.Sizeof(n)})
	}
	for _, k := range n.Kids {
		l = append(l, spans(k)...)
	}
	return l
}

// apart holds that no two pieces of memory of an answer are the same, and none is one of others.
func apart(t *testing.T, what string, n api.Node, others ...api.Node) {
	t.Helper()
	type end struct {
		at   uintptr
		mine bool
		by   int // a piece ends ahead of the next one's beginning
	}
	var ends []end
	add := func(l []span, mine bool) {
		for _, s := range l {
			ends = append(ends, end{s.begin, mine, 1}, end{s.end, mine, -1})
		}
	}
	add(spans(n), true)
	for _, o := range others {
		add(spans(o), false)
	}
	slices.SortFunc(ends, func(a, b end) int {
		if a.at != b.at {
			if a.at < b.at {
				return -1
			}
			return 1
		}
		return a.by - b.by
	})
	mine, all := 0, 0
	for _, e := range ends {
		all += e.by
		if e.mine {
			mine += e.by
		}
		if mine > 1 || mine == 1 && all > 1 {
			t.Errorf("%s shares memory: %.200s", what, told(n))
			return
		}
	}
}

// fresh is n with texts and lists of its own, and each list with spare room.
func fresh(n api.Node) api.Node {
	n.Text = strings.Clone(n.Text)
	kids := make([]api.Node, 0, len(n.Kids)+2)
	for _, k := range n.Kids {
		kids = append(kids, fresh(k))
	}
	n.Kids = kids
	return n
}

// R4: what is answered is new memory: texts and lists, with their spare room.
func TestAnswersAreNew(t *testing.T) {
	for _, n := range trees() {
		n = fresh(n)
		m := fresh(sum())
		c, d := Copy(n), Copy(n)
		apart(t, "Copy", c, n, d)
		for i := range flat(n) {
			a, _ := At(n, i)
			b, _ := At(n, i)
			apart(t, "At", a, n, b)
			r, _ := Replace(n, i, m)
			q, _ := Replace(n, i, m)
			apart(t, "Replace", r, n, m, q)
			r, _ = Replace(n, i, n)
			apart(t, "Replace by itself", r, n)
		}
		walk := All(n)
		var before []api.Node
		for range 2 {
			for _, m := range walk {
				apart(t, "All", m, n)
				before = append(before, m)
			}
		}
		for i, m := range before[:min(len(before), 30)] {
			apart(t, "All", m, slices.Delete(slices.Clone(before), i, i+1)...)
		}
	}
}

// spoil changes all in a tree, its lists' spare room too.
func spoil(n *api.Node) {
	for i := range n.Kids {
		spoil(&n.Kids[i])
	}
	l := n.Kids[:cap(n.Kids)]
	for i := range l {
		l[i] = withN(nd(77, "spoilt", num(7)), 77)
	}
	n.Kind, n.Text, n.N = 78, "spoilt", 78
}

// R4: what is done to an answer shows in no other one, nor in what was handed in.
func TestAnswersAreTheirCallers(t *testing.T) {
	for _, n := range trees() {
		n = fresh(n)
		want, m := told(n), fresh(sum())
		wants := flat(Copy(n))
		c, walk := Copy(n), All(n)
		for i := range wants {
			a, _ := At(n, i)
			spoil(&a)
			r, _ := Replace(n, i, m)
			spoil(&r)
		}
		for at, x := range walk {
			same(t, "All, the trees ahead being changed", x, wants[at])
			spoil(&x)
		}
		for at, x := range walk {
			same(t, "All again, the trees ahead being changed", x, wants[at])
		}
		if told(n) != want || told(c) != want || told(m) != told(sum()) {
			t.Errorf("what was handed in, or a copy of it, was changed with an answer: %.200s", told(n))
		}
		spoil(&c)
		if told(n) != want {
			t.Errorf("what was handed in was changed with its copy: %.200s", told(n))
		}
	}
}

// R4: what is handed in is not kept: a walk tells the tree as it was when All was called, whatever is done to it by then or meanwhile.
func TestAllKeepsNothing(t *testing.T) {
	for _, n := range trees() {
		want := Copy(n)
		later := fresh(n)
		walk := All(later)
		spoil(&later)
		wantWalk(t, "All of what was changed since", walk, want)

		meanwhile := fresh(n)
		wants := flat(want)
		next := 0
		for at, m := range All(meanwhile) {
			same(t, "All of what is changed meanwhile", m, wants[at])
			if next++; next == 1 {
				spoil(&meanwhile)
			}
		}
		if next != len(wants) {
			t.Errorf("All of what is changed meanwhile: %d places, want %d", next, len(wants))
		}
	}
}

// R4: no call changes what is handed in, its lists' spare room too.
func TestHandedInStays(t *testing.T) {
	for _, n := range trees() {
		n, m := fresh(n), fresh(odd())
		room := n.Kids[:cap(n.Kids)]
		for i := len(n.Kids); i < len(room); i++ {
			room[i] = num(1000 + i)
		}
		all := func() string { return told(n) + told(nd(0, "", room...)) + told(m) }
		want := all()
		Form(n)
		Same(n, m)
		Copy(n)
		Size(n)
		Depth(n)
		for _, i := range append(outside(len(flat(n))), 0, 1, len(flat(n))-1) {
			At(n, i)
			Replace(n, i, m)
		}
		for range All(n) {
		}
		if all() != want {
			t.Errorf("what was handed in was changed: %.200s, want %.200s", all(), want)
		}
	}
}

// chain is a tree of that depth: each of the kind within the next, a leaf innermost.
func chain(depth int, leaf api.Node, in func(api.Node) api.Node) api.Node {
	for range depth - 1 {
		leaf = in(leaf)
	}
	return leaf
}

// R1, the bound: trees of 2^16 within one another.
func TestDeep(t *testing.T) {
	const depth = 1 << 16
	for _, x := range []struct {
		leaf api.Node
		in   func(api.Node) api.Node
		form int
	}{
		{num(1), func(n api.Node) api.Node { return nd(api.Unary, "-", n) }, api.FormExpr},
		{typ("T"), func(n api.Node) api.Node { return nd(api.TypeArray, "", n) }, api.FormType},
		{block, func(n api.Node) api.Node { return nd(api.Block, "", n) }, api.FormStmt},
	} {
		n := chain(depth, x.leaf, x.in)
		if f, s, d := Form(n), Size(n), Depth(n); f != x.form || s != depth || d != depth {
			t.Errorf("of a deep tree: %d, %d, %d", f, s, d)
		}
		if c := Copy(n); !Same(n, c) {
			t.Error("Copy of a deep tree")
		}
		if m, ok := At(n, depth-1); !ok || !Same(m, x.leaf) {
			t.Errorf("At of a deep tree: %s, %t", told(m), ok)
		}
		m, ok := Replace(n, depth-1, api.Node{})
		if !ok || Same(m, n) || Size(m) != depth || Form(m) != api.FormNone {
			t.Error("Replace in a deep tree")
		}
		next := 0
		for at := range All(n) {
			if at != next {
				t.Fatalf("All of a deep tree: %d, want %d", at, next)
			}
			if next++; next == 20 {
				break
			}
		}
	}
}

// R1: trees of very many kids.
func TestWide(t *testing.T) {
	const many = 1 << 18
	n := nd(api.Array, "", slices.Repeat([]api.Node{num(3)}, many)...)
	if f, s, d := Form(n), Size(n), Depth(n); f != api.FormExpr || s != many+1 || d != 2 {
		t.Errorf("of a wide tree: %d, %d, %d", f, s, d)
	}
	if m, ok := At(n, many); !ok || !Same(m, num(3)) {
		t.Error("At of a wide tree")
	}
	m, ok := Replace(n, many, num(4))
	if !ok || Same(n, m) || m.Kids[many-1].N != 4 || m.Kids[many-2].N != 3 {
		t.Error("Replace in a wide tree")
	}
	next := 0
	for at := range All(n) {
		if at != next {
			t.Fatalf("All of a wide tree: %d, want %d", at, next)
		}
		next++
	}
	if next != many+1 {
		t.Errorf("All of a wide tree: %d", next)
	}
}
