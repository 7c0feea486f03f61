package vfs

import (
	"slices"
	"strings"
	"testing"
	"unsafe"

	"gusset/api"
)

// files writes a list of files in short: path, bytes, path, bytes, ..
func files(parts ...string) []api.File {
	var l []api.File
	for i := 0; i+1 < len(parts); i += 2 {
		l = append(l, api.File{Path: parts[i], Bytes: parts[i+1]})
	}
	return l
}

// table has the files of a list, written one by one.
func table(t *testing.T, l []api.File) *Table {
	t.Helper()
	v := New()
	for _, f := range l {
		if e := v.Write(f.Path, f.Bytes); e != api.OK {
			t.Fatalf("Write(%q): %d", f.Path, e)
		}
	}
	return v
}

// has holds all that a table tells against the files that it should have, and against paths that it should not have.
func has(t *testing.T, v *Table, want []api.File, lacks ...string) {
	t.Helper()
	if got := v.Files(); !slices.Equal(got, want) {
		t.Errorf("Files: %.200q, want %.200q", got, want)
	}
	if v.Len() != len(want) {
		t.Errorf("Len: %d, want %d", v.Len(), len(want))
	}
	for _, f := range want {
		if b, ok := v.Read(f.Path); b != f.Bytes || !ok {
			t.Errorf("Read(%q): %.50q, %t, want %.50q", f.Path, b, ok, f.Bytes)
		}
		if !v.Has(f.Path) {
			t.Errorf("Has(%q): false", f.Path)
		}
	}
	for _, p := range lacks {
		if b, ok := v.Read(p); b != "" || ok {
			t.Errorf("Read(%q): %.50q, %t of no file", p, b, ok)
		}
		if v.Has(p) {
			t.Errorf("Has(%q): true of no file", p)
		}
	}
}

// 2.1: a new table has no files, and is another one each time.
func TestNew(t *testing.T) {
	v, w := New(), New()
	if v == nil || v == w {
		t.Fatal("New gives no table of its own")
	}
	has(t, v, nil, "", "/", "/a")
	v.Write("/a", "1")
	has(t, w, nil, "/a")
}

// 2.1: what is written is read; what was there is written over, by less, by more, by nothing.
func TestWrite(t *testing.T) {
	v := New()
	for _, b := range []string{"2", "3", "longer than it was", "", "4"} {
		if e := v.Write("/b", b); e != api.OK {
			t.Errorf("Write of %q: %d", b, e)
		}
		has(t, v, files("/b", b), "/a", "/", "b", "/b/", "")
	}
	v.Write("/a", "1")
	has(t, v, files("/a", "1", "/b", "4"), "/c")
}

// 2.1: any text is a path, and any bytes are a file's: nothing is cut, folded or read as runes.
func TestAnyText(t *testing.T) {
	texts := []string{"", "\x00", " ", "/", "//", "/a", "/a/", "/a/../a", "A", "a", "a\xcc\x88", "ä", "ä", "\xff", "\xff\xfe", strings.Repeat("p", 70000)}
	slices.Sort(texts)
	texts = slices.Compact(texts)
	v := New()
	var want []api.File
	for i, p := range texts {
		b := texts[len(texts)-1-i]
		if len(b) > api.MaxBytes {
			b = "\x80"
		}
		if e := v.Write(p, b); e != api.OK {
			t.Errorf("Write(%.20q): %d", p, e)
		}
		want = append(want, api.File{Path: p, Bytes: b})
	}
	has(t, v, want, "b", "ä ", "\xfe")
	for i, p := range texts {
		if !v.Remove(p) {
			t.Errorf("Remove(%.20q): false", p)
		}
		has(t, v, want[i+1:], texts[:i+1]...)
	}
}

// 2.1: MaxBytes bytes are a file, one more is none, and what was there stays.
func TestBytes(t *testing.T) {
	most := strings.Repeat("x", 65536)
	v := table(t, files("/a", "1"))
	if e := v.Write("/b", most[1:]); e != api.OK {
		t.Error("65535 bytes:", e)
	}
	if e := v.Write("/b", most); e != api.OK {
		t.Error("65536 bytes:", e)
	}
	want := files("/a", "1", "/b", most)
	has(t, v, want)
	for _, p := range []string{"/a", "/b", "/c"} {
		for _, b := range []string{most + "y", most + most} {
			if e := v.Write(p, b); e != api.ErrBytes {
				t.Errorf("Write(%q) of %d bytes: %d", p, len(b), e)
			}
			has(t, v, want, "/c")
		}
	}
	// Bytes are counted, not runes.
	if e := v.Write("/c", strings.Repeat("ä", 32768)); e != api.OK {
		t.Error("32768 runes of two bytes:", e)
	}
	if e := v.Write("/c", strings.Repeat("ä", 32769)); e != api.ErrBytes {
		t.Error("32769 runes of two bytes:", e)
	}
	if e := v.Write(most+most, ""); e != api.OK {
		t.Error("a long path:", e)
	}
}

// 2.1: a file is removed once; a second time, or where there was none, it is told so; the others stay.
func TestRemove(t *testing.T) {
	v := table(t, files("/b", "2", "/a", "1", "/e", ""))
	if v.Remove("/c") || v.Remove("") {
		t.Error("what was not there is removed")
	}
	has(t, v, files("/a", "1", "/b", "2", "/e", ""), "/c")
	if !v.Remove("/a") || v.Remove("/a") || v.Remove("/a") {
		t.Error("/a is not removed just once")
	}
	has(t, v, files("/b", "2", "/e", ""), "/a")
	// A file without bytes is a file.
	if !v.Remove("/e") || v.Remove("/e") {
		t.Error("/e is not removed just once")
	}
	has(t, v, files("/b", "2"), "/a", "/e")
	v.Write("/a", "again")
	has(t, v, files("/a", "again", "/b", "2"), "/e")
	if !v.Remove("/a") || !v.Remove("/b") || v.Remove("/b") {
		t.Error("the rest is not removed")
	}
	has(t, v, nil, "/a", "/b", "/e")
}

// 2.2: paths rise byte by byte.
func TestFilesRise(t *testing.T) {
	rising := files("", "0", "/", "1", "/A", "2", "/B", "3", "/a", "4", "/a.ts", "5", "/a/b", "6", "/a0", "7", "/aa", "8", "/ä", "9", "/\U0001F600", "10", "/\xff", "11")
	v := New()
	for i := range rising {
		f := rising[(i*5+3)%len(rising)]
		v.Write(f.Path, f.Bytes)
	}
	has(t, v, rising)
	for range 20 {
		if !slices.Equal(v.Files(), rising) {
			t.Fatal("Files hangs on the map's order")
		}
	}
}

// 2.2: after a Load the table has just the list's files.
func TestLoad(t *testing.T) {
	most := strings.Repeat("x", api.MaxBytes)
	for _, l := range [][]api.File{
		nil,
		{},
		files("", ""),
		files("/b", "new"),
		files("", "a", "/b", "", "/c", most),
		files("/A", "1", "/a", "2", "/a.ts", "3", "/a/b", "4", "/ä", "5", "/\xff", "6"),
	} {
		for _, v := range []*Table{New(), table(t, files("/b", "old", "/d", "4", "/x", "5"))} {
			if e := v.Load(l); e != api.OK {
				t.Errorf("Load of %.100q: %d", l, e)
			}
			has(t, v, l, "/d", "/x")
			if !v.Remove("/b") && slices.ContainsFunc(l, func(f api.File) bool { return f.Path == "/b" }) {
				t.Error("what was loaded is not removed")
			}
			if e := v.Write("/d", "w"); e != api.OK || !v.Has("/d") {
				t.Error("what was loaded is not written to")
			}
		}
	}
}

// 2.2: a list that does not rise, or with a file that is too long, is refused wherever the fault stands, and the table stays.
func TestLoadRefuses(t *testing.T) {
	most := strings.Repeat("x", api.MaxBytes)
	long := most + "y"
	old := files("/a", "old", "/m", "4")
	for _, l := range [][]api.File{
		files("/b", "", "/a", ""),
		files("/a", "", "/a", ""),
		files("/a", "1", "/a", "2"),
		files("", "", "", ""),
		files("/a", "", "", ""),
		files("/a", "", "/b", "", "/b", ""),
		files("/a", "", "/c", "", "/b", ""),
		files("/b", "", "/a", "", "/c", ""),
		files("/a", "", "/b", "", "/c", "", "/b", "", "/d", ""),
		files("/a", "", "/B", ""),
		files("/\xff", "", "/ä", ""),
		files("/a", long),
		files("/a", long, "/b", ""),
		files("/a", "", "/b", long, "/c", ""),
		files("/a", "", "/b", "", "/c", long),
		files("/c", long, "/b", ""),
	} {
		v := table(t, old)
		if e := v.Load(l); e != api.ErrFiles {
			t.Errorf("Load of %.100q: %d", l, e)
		}
		has(t, v, old, "", "/b", "/c", "/d", "/B")
	}
}

// 2.2: what is done to a table is not seen at its copy, nor the other way round, by turns.
func TestCopy(t *testing.T) {
	v := table(t, files("/a", "1", "/b", "2"))
	c := v.Copy()
	if c == nil || c == v {
		t.Fatal("Copy gives no other table")
	}
	has(t, c, files("/a", "1", "/b", "2"))
	v.Write("/a", "v")
	c.Write("/b", "c")
	v.Write("/n", "v")
	has(t, v, files("/a", "v", "/b", "2", "/n", "v"))
	has(t, c, files("/a", "1", "/b", "c"), "/n")
	if !v.Remove("/b") || !c.Remove("/a") || !c.Remove("/b") {
		t.Error("Remove")
	}
	has(t, v, files("/a", "v", "/n", "v"), "/b")
	has(t, c, nil, "/a", "/b", "/n")
	d := v.Copy()
	if c.Load(files("/l", "c")) != api.OK || v.Load(files("/l", "v")) != api.OK {
		t.Error("Load")
	}
	has(t, c, files("/l", "c"), "/a", "/n")
	has(t, v, files("/l", "v"), "/a", "/n")
	has(t, d, files("/a", "v", "/n", "v"), "/l")
	e := New().Copy()
	has(t, e, nil, "/a")
	if e.Write("/a", "e") != api.OK {
		t.Error("a copy of an empty table is not written to")
	}
	has(t, e, files("/a", "e"))
}

// 2.3, R1: a nil table refuses Write and Load, its copy is nil, and all else answers zero values.
func TestNil(t *testing.T) {
	var v *Table
	long := strings.Repeat("x", api.MaxBytes+1)
	for _, b := range []string{"", "1", long} {
		if e := v.Write("/a", b); e != api.ErrArg {
			t.Errorf("Write of %d bytes: %d", len(b), e)
		}
	}
	for _, l := range [][]api.File{nil, files("/a", "1"), files("/b", "", "/a", ""), files("/a", long)} {
		if e := v.Load(l); e != api.ErrArg {
			t.Errorf("Load of %.50q: %d", l, e)
		}
	}
	if v.Copy() != nil {
		t.Error("Copy")
	}
	if v.Remove("/a") {
		t.Error("Remove")
	}
	has(t, v, nil, "/a", "")
}

// R1: a table that was written out, not made by New, is an empty one.
func TestZeroTable(t *testing.T) {
	has(t, &Table{}, nil, "/a")
	v := &Table{}
	if v.Remove("/a") || v.Write("/a", "1") != api.OK {
		t.Error("Write")
	}
	has(t, v, files("/a", "1"))
	if v = (&Table{}); v.Load(files("/b", "2")) != api.OK {
		t.Error("Load")
	}
	has(t, v, files("/b", "2"), "/a")
	c := (&Table{}).Copy()
	if c.Write("/c", "3") != api.OK {
		t.Error("Copy")
	}
	has(t, c, files("/c", "3"))
}

// R4: what a caller does to a list that was answered, behind its end too, or that was handed in, is not seen at the table.
func TestListsApart(t *testing.T) {
	want := files("/a", "1", "/b", "2", "/c", "3")
	v := table(t, want)
	l, m := v.Files(), v.Files()
	l[0] = api.File{Path: "/z", Bytes: "z"}
	for i := range l[:cap(l)] {
		l[:cap(l)][i] = api.File{Path: "/y", Bytes: "y"}
	}
	if !slices.Equal(m, want) {
		t.Error("two answers share memory")
	}
	has(t, v, want, "/z", "/y")

	in := append(files("/a", "1", "/b", "2", "/c", "3"), files("/d", "4")...)
	keep := slices.Clone(in)
	if v.Load(in[:3]) != api.OK || !slices.Equal(in, keep) {
		t.Error("Load changed what was handed in")
	}
	clear(in)
	has(t, v, want, "/d")
	c := v.Copy()
	l = c.Files()
	clear(l)
	has(t, v, want)
	has(t, c, want)
}

// R4: neither do texts share memory: of what was handed in, of what is kept, of what was answered.
func TestTextsApart(t *testing.T) {
	path, bytes := strings.Clone("/path"), strings.Clone("bytes")
	in := []api.File{{Path: path, Bytes: bytes}}
	v, w := New(), New()
	v.Write(path, bytes)
	w.Load(in)
	seen := map[*byte]string{unsafe.StringData(path): "path", unsafe.StringData(bytes): "bytes"}
	look := func(who, s string) {
		if was, ok := seen[unsafe.StringData(s)]; ok {
			t.Errorf("%s is the memory of %s", who, was)
		}
		seen[unsafe.StringData(s)] = who
	}
	for i, u := range []*Table{v, w, v.Copy(), w.Copy()} {
		who := string(rune('1' + i))
		for p, c := range u.files {
			look(who+" kept path", p)
			look(who+" kept bytes", c.bytes)
		}
		for range 2 {
			b, _ := u.Read("/path")
			look(who+" Read", b)
			look(who+" Files path", u.Files()[0].Path)
			look(who+" Files bytes", u.Files()[0].Bytes)
		}
	}
}

// 2.4: a row of writes, removes, loads and copies does at each step what a list of files does that is searched from its beginning.
func TestAgainstList(t *testing.T) {
	v := New()
	var want []api.File
	paths := []string{"", "/", "/a", "/a.ts", "/a/b", "/b", "/ä", "/\xff"}
	at := func(p string) (int, bool) {
		i := 0
		for i < len(want) && want[i].Path < p {
			i++
		}
		return i, i < len(want) && want[i].Path == p
	}
	seed := uint32(1)
	draw := func(n int) int {
		seed = seed*1664525 + 1013904223
		return int(seed>>16) % n
	}
	for step := range 5000 {
		p := paths[draw(len(paths))]
		i, there := at(p)
		switch draw(8) {
		case 0, 1, 2, 3:
			b := strings.Repeat("b", draw(3)) + p
			if v.Write(p, b) != api.OK {
				t.Fatal(step, "Write")
			}
			if there {
				want[i].Bytes = b
			} else {
				want = slices.Insert(want, i, api.File{Path: p, Bytes: b})
			}
		case 4, 5:
			if v.Remove(p) != there {
				t.Fatal(step, "Remove")
			}
			if there {
				want = slices.Delete(want, i, i+1)
			}
		case 6:
			if v.Load(v.Files()) != api.OK {
				t.Fatal(step, "Load of Files")
			}
		case 7:
			old := v
			v = v.Copy()
			old.Write(p, "of the old one")
			old.Remove(paths[draw(len(paths))])
		}
		var lacks []string
		for _, p := range paths {
			if _, there := at(p); !there {
				lacks = append(lacks, p)
			}
		}
		has(t, v, want, lacks...)
		if t.Failed() {
			t.Fatal("at step", step)
		}
	}
}

// 2.4: in which order files were written does not show, nor what was there between.
func TestOrderOfWrites(t *testing.T) {
	want := files("/a", "1", "/b", "2", "/c", "3", "/d", "4")
	var each func(done, rest []api.File)
	each = func(done, rest []api.File) {
		if len(rest) == 0 {
			v := table(t, done)
			v.Write("/e", "5")
			v.Remove("/e")
			has(t, v, want, "/e")
			w := New()
			if w.Load(v.Files()) != api.OK {
				t.Error("Load of Files")
			}
			has(t, w, want, "/e")
		}
		for i, f := range rest {
			others := append(slices.Clone(rest[:i]), rest[i+1:]...)
			each(append(slices.Clone(done), f), others)
		}
	}
	each(nil, want)
}
