package types

import (
	"slices"
	"strconv"
	"testing"

	"gusset/api"
)

// 14.3: the rules one by one.
func TestUnionRules(t *testing.T) {
	mixed, other := eitherOf(number, text), eitherOf(text, null)
	inst := func(n int) api.Type { return numbered(api.TypeInst, n) }
	for _, c := range []struct {
		want string
		l    []api.Type
	}{
		{"number", []api.Type{number}}, {"number", []api.Type{number, number, number}}, {"any", []api.Type{anyType}}, {"any", []api.Type{anyType, anyType}},
		{"any", []api.Type{mixed, null, anyType}}, {"any", []api.Type{anyType, mixed}},
		{"any[] | number[]", []api.Type{list(number), list(anyType)}}, // an any within is none of l
		{"number | string", []api.Type{mixed}}, {"number | string", []api.Type{mixed, mixed}}, {"number | string", []api.Type{mixed, text}}, {"number | string", []api.Type{number, mixed}},
		{"number | string | null", []api.Type{mixed, other}}, {"number | string | null", []api.Type{other, mixed, other}}, {"number | string | boolean | null", []api.Type{boolean, other, number}},
		{"undefined | (number | string)[]", []api.Type{list(mixed), undef}}, // what stands within a list stays there
		{"number[] | string[] | (number | string)[]", []api.Type{list(mixed), list(text), list(number)}},
		{"inst#2 | inst#10 | class#1 | space#0", []api.Type{numbered(api.TypeSpace, 0), inst(10), numbered(api.TypeClass, 1), inst(2), inst(10)}},
		{"{} | { b: number; } | { a: number; b: number; } | (() => any) | ((any) => any)", []api.Type{fn(anyType, anyType), record("a b", number, number), fn(anyType), record("b", number), record("")}},
		{"{ a: number; } | { a: string; } | { b: number; }", []api.Type{record("b", number), record("a", text), record("a", number), record("a", text)}},
		{"{}", []api.Type{record(""), {Kind: api.TypeRecord, Names: []string{}, List: []api.Type{}}}}, // R3
	} {
		isUnion(t, c.want, api.OK, c.l...)
		slices.Reverse(c.l)
		isUnion(t, c.want, api.OK, c.l...)
	}
	isUnion(t, "", api.ErrArg, []api.Type{}...)
	isUnion(t, "", api.ErrArg, nil...)
	isUnion(t, "", api.ErrArg, number, api.Type{})
	isUnion(t, "", api.ErrArg, anyType, api.Type{})
	isUnion(t, "", api.ErrArg, inst(-1), anyType)
	isUnion(t, "", api.ErrArg, eitherOf(anyType, number), number)
	isUnion(t, "", api.ErrArg, number, eitherOf(text, number))
}

// 14.3: a union of types, of which none is too large, may be; each type counts once.
func TestUnionLimit(t *testing.T) {
	a, b := sized(api.TypeFn, 150), sized(api.TypeList, 149)
	isUnion(t, Show(b)+" | ("+Show(a)+")", api.OK, a, b) // 1 + 150 + 149
	isUnion(t, "", api.ErrComplex, a, b, null)
	isUnion(t, Show(b)+" | ("+Show(a)+")", api.OK, a, b, a, b, b, eitherOf(b, a))
	isUnion(t, "", api.ErrComplex, eitherOf(b, a), numbered(api.TypeInst, 0))
	isUnion(t, "any", api.OK, eitherOf(b, a), numbered(api.TypeInst, 0), anyType)
	var l []api.Type
	for n := range 298 {
		l = append(l, numbered(api.TypeClass, n))
	}
	full := eitherOf(append(slices.Clone(l), numbered(api.TypeClass, 298))...)
	isUnion(t, Show(full), api.OK, append(l, numbered(api.TypeClass, 298))...)
	isUnion(t, Show(full), api.OK, append(slices.Concat(l, l, l), full)...)
	isUnion(t, "", api.ErrComplex, append(l, numbered(api.TypeClass, 298), number)...)
	isUnion(t, "", api.ErrComplex, full, number)
	isUnion(t, "", api.ErrComplex, full, list(number))
}

// 14.3: of types made by chance, some of which may not be, or are too large together.
func TestUnionMade(t *testing.T) {
	errs := map[api.Errno]int{}
	for seed := range int64(10000) {
		c := by(seed)
		var l []api.Type
		for range c.Intn(6) {
			l = append(l, c.may(4))
		}
		if len(l) > 0 && seed%5 == 0 {
			c.spoil(&l[c.Intn(len(l))])
		}
		if seed%7 == 0 {
			l = append(l, sized(api.TypeList, 280+c.Intn(22)))
		}
		want, wantErr := unionOf(l)
		got, err := Union(l...)
		if err != wantErr || told(got) != told(want) {
			t.Fatalf("%d: %s, %d, want %s, %d", seed, told(got), err, told(want), wantErr)
		}
		if err == api.OK && Check(got) != api.OK {
			t.Fatalf("%s may not be", told(got))
		}
		errs[err]++
	}
	if errs[api.OK] < 4000 || errs[api.ErrArg] < 800 || errs[api.ErrComplex] < 100 {
		t.Error(errs)
	}
}

// 14.6: a union hangs on neither order nor how often, and may be made bit by bit; Union of one is it.
func TestUnionAgain(t *testing.T) {
	for seed := range int64(5000) {
		c := by(seed)
		l := c.mays(1+c.Intn(6), 3)
		want, err := Union(l...)
		if err != api.OK {
			t.Fatal(err)
		}
		if got, err := Union(want); err != api.OK || told(got) != told(want) {
			t.Fatalf("%s: %s, %d", told(want), told(got), err)
		}
		again := append(slices.Clone(l), l[c.Intn(len(l))], l[c.Intn(len(l))])
		c.Shuffle(len(again), func(i, j int) { again[i], again[j] = again[j], again[i] })
		at := 1 + c.Intn(len(again))
		first, _ := Union(again[:at]...)
		behind, _ := Union(append(again[at:], l[0])...)
		for _, m := range [][]api.Type{again, {first, behind}, {behind, first, behind}, append([]api.Type{behind}, l...)} {
			if got, err := Union(m...); err != api.OK || told(got) != told(want) {
				t.Fatalf("%d: %s, %d, want %s", seed, told(got), err, told(want))
			}
		}
	}
}

func slot(name string, t api.Type) api.Slot { return api.Slot{Name: name, Type: t} }

// 14.4: the rules one by one.
func TestRecordRules(t *testing.T) {
	isRecord(t, "{}", api.OK)
	isRecord(t, "{}", api.OK, []api.Slot{}...)
	isRecord(t, "{ a: any; }", api.OK, slot("a", anyType))
	isRecord(t, "{ : null; }", api.OK, slot("", null))
	isRecord(t, "{ A: null; a: number | string; aa: {}; b: () => any; ä: any[]; }", api.OK, slot("ä", list(anyType)), slot("b", fn(anyType)), slot("a", eitherOf(number, text)), slot("A", null), slot("aa", record("")))
	isRecord(t, "{ \x00: number; \x80: number; \xff: number; }", api.OK, slot("\xff", number), slot("\x00", number), slot("\x80", number))
	isRecord(t, "", api.ErrArg, slot("a", api.Type{}))
	isRecord(t, "", api.ErrArg, slot("b", number), slot("a", eitherOf(number)))
	isRecord(t, "", api.ErrArg, slot("", number), slot("a", null), slot("", number))
	isRecord(t, "", api.ErrArg, slot("b", number), slot("a", text), slot("c", null), slot("b", text))
	isRecord(t, "", api.ErrArg, slot("a", number), slot("a", api.Type{}))
}

// 14.4: the Size of a record at the limit, of many slots and of large ones.
func TestRecordLimit(t *testing.T) {
	var l []api.Slot
	for i := range 299 {
		l = append(l, slot("n"+strconv.Itoa(1000+i), number))
	}
	slices.Reverse(l)
	got, err := Record(l)
	if err != api.OK || Size(got) != 300 || !slices.IsSorted(got.Names) || Check(got) != api.OK {
		t.Error(told(got), err)
	}
	isRecord(t, "", api.ErrComplex, append(l, slot("a", number))...)
	isRecord(t, "", api.ErrArg, append(l, slot("n1000", number))...)
	isRecord(t, "", api.ErrArg, append(l, slot("a", number), slot("n1200", number))...)
	isRecord(t, "", api.ErrComplex, append(l[1:], slot("a", list(number)))...)
	large := sized(api.TypeFn, 149)
	isRecord(t, "{ a: "+Show(large)+"; b: "+Show(large)+"; c: null; }", api.OK, slot("c", null), slot("a", large), slot("b", large))
	isRecord(t, "", api.ErrComplex, slot("c", list(null)), slot("a", large), slot("b", large))
}

// 14.4: of slots made by chance.
func TestRecordMade(t *testing.T) {
	errs := map[api.Errno]int{}
	for seed := range int64(10000) {
		c := by(seed)
		var l []api.Slot
		for range c.Intn(5) {
			l = append(l, slot(someNames[c.Intn(len(someNames))], c.may(4)))
		}
		if len(l) > 0 && seed%5 == 0 {
			c.spoil(&l[c.Intn(len(l))].Type)
		}
		if seed%7 == 0 {
			l = append(l, slot("z", sized(api.TypeList, 280+c.Intn(22))))
		}
		want, wantErr := recordOf(l)
		got, err := Record(l)
		if err != wantErr || told(got) != told(want) {
			t.Fatalf("%d: %s, %d, want %s, %d", seed, told(got), err, told(want), wantErr)
		}
		if err == api.OK && Check(got) != api.OK {
			t.Fatalf("%s may not be", told(got))
		}
		errs[err]++
	}
	if errs[api.OK] < 4000 || errs[api.ErrArg] < 800 || errs[api.ErrComplex] < 100 {
		t.Error(errs)
	}
}
