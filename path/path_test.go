package path

import (
	"regexp"
	"slices"
	"strings"
	"testing"
	"unsafe"

	"gusset/api"
)

// normal holds what Normal answers against a path and an error.
func normal(t *testing.T, p, want string, err api.Errno) {
	t.Helper()
	if q, e := Normal(p); q != want || e != err {
		t.Errorf("Normal(%.220q): %.220q, %d, want %.220q, %d", p, q, e, want, err)
	}
}

// join holds what Join answers against a path and an error.
func join(t *testing.T, from, request, want string, err api.Errno) {
	t.Helper()
	if q, e := Join(from, request); q != want || e != err {
		t.Errorf("Join(%.220q, %.220q): %.220q, %d, want %.220q, %d", from, request, q, e, want, err)
	}
}

// long is a path of one part with n bytes.
func long(n int) string {
	return "/" + strings.Repeat("x", n-1)
}

// texts are all texts of at most n bytes out of the signs.
func texts(signs string, n int) []string {
	l := []string{""}
	for begin := 0; n > 0; n-- {
		end := len(l)
		for _, p := range l[begin:end] {
			for i := range len(signs) {
				l = append(l, p+signs[i:i+1])
			}
		}
		begin = end
	}
	return l
}

var (
	onlySigns = regexp.MustCompile(`^/[a-zA-Z0-9_./-]*$`)
	isPath    = regexp.MustCompile(`^(/([a-zA-Z0-9_-]|\.[a-zA-Z0-9_-]|\.\.[a-zA-Z0-9_.-])[a-zA-Z0-9_.-]*)+$`)
	nothing   = regexp.MustCompile(`/\.?/`)
	above     = regexp.MustCompile(`^/\.\./`)
	firstBack = regexp.MustCompile(`^((?:/[^/]+)*?)/[^/]+/\.\./`)
)

// rewritten is 3.1 told another way: the text is rewritten till no empty part, no `.` and no `..` is in it.
func rewritten(p string) (string, api.Errno) {
	if !onlySigns.MatchString(p) {
		return "", api.ErrPath
	}
	p += "/"
	for nothing.MatchString(p) {
		p = nothing.ReplaceAllString(p, "/")
	}
	for firstBack.MatchString(p) && !above.MatchString(p) {
		p = firstBack.ReplaceAllString(p, "$1/")
	}
	if above.MatchString(p) || p == "/" {
		return "", api.ErrPath
	}
	if len(p)-1 > 200 {
		return "", api.ErrLong
	}
	return p[:len(p)-1], api.OK
}

// 3.1: empty parts and `.` are left out, `..` takes the part ahead of it away.
func TestNormal(t *testing.T) {
	for _, x := range [][2]string{
		{"/a", "/a"},
		{"/a//b/./../c", "/a/c"},
		{"/a/b.ts", "/a/b.ts"},
		{"//a", "/a"},
		{"/a/", "/a"},
		{"/a///", "/a"},
		{"/./a/.", "/a"},
		{"/a/b/..", "/a"},
		{"/a/b/../", "/a"},
		{"/a/../b", "/b"},
		{"/a//../b", "/b"},
		{"/a/./../b", "/b"},
		{"/a/b/../../c", "/c"},
		{"/a/b/c/../../d", "/a/d"},
		{"/ab/cd/../ef", "/ab/ef"},
		{"/a/../b/../c", "/c"},
	} {
		normal(t, x[0], x[1], api.OK)
	}
}

// 3.1: a part of other dots, or with dots in it, is a part as any other one.
func TestNormalDots(t *testing.T) {
	for _, p := range []string{"/...", "/.../x", "/..../y", "/.a", "/..a", "/a.", "/a..", "/a..b", "/.-", "/.._"} {
		normal(t, p, p, api.OK)
	}
	normal(t, "/a/.../..", "/a", api.OK)
	normal(t, "/..a/../b", "/b", api.OK)
}

// 3.1: what does not begin with a slash is no path.
func TestNormalBeginning(t *testing.T) {
	for _, p := range []string{"", "a", "a/b", "./a", "../a", ".", "..", " /a", "\\a", "a/"} {
		normal(t, p, "", api.ErrPath)
	}
}

// 3.1: of all bytes just those of parts, and the slash, may be; a bad one in a part that is taken away is bad as well.
func TestNormalSigns(t *testing.T) {
	const good = "abcdefghijklmnopqrstuvwxyzABCDEFGHIJKLMNOPQRSTUVWXYZ0123456789_-./"
	for b := range 256 {
		sign := string([]byte{byte(b)})
		want, err := "", api.ErrPath
		switch {
		case sign == "/":
			want, err = "/a/b", api.OK
		case strings.Contains(good, sign):
			want, err = "/a"+sign+"b", api.OK
		}
		normal(t, "/a"+sign+"b", want, err)
		if want != "" {
			want = "/c"
		}
		if sign != "/" && sign != "." {
			normal(t, "/"+sign+"/../c", want, err)
		}
	}
	for _, p := range []string{"/a b", "/ä", "/a/\xff", "/a\x00", "/a\n", "/a ", "/$", "/a/b\\c", "/a:b", "/@", "/[", "/`", "/{", "/,"} {
		normal(t, p, "", api.ErrPath)
	}
}

// 3.1: no `..` leads above the first part, not even where parts follow.
func TestNormalAbove(t *testing.T) {
	for _, p := range []string{"/..", "/../", "/../a", "/./..", "//..", "/a/../..", "/a/../../b", "/a/b/../../..", "/a/../../b/c", "/a/./..//../b"} {
		normal(t, p, "", api.ErrPath)
	}
}

// 3.1: a path has a part at least.
func TestNormalNothingLeft(t *testing.T) {
	for _, p := range []string{"/", "//", "/.", "/./", "/././/", "/a/..", "/a/b/../..", "/a/../"} {
		normal(t, p, "", api.ErrPath)
	}
}

// 3.1: 200 bytes may be, 201 not; those of the path that is left are counted, not those of the text.
func TestNormalLong(t *testing.T) {
	normal(t, long(199), long(199), api.OK)
	normal(t, long(200), long(200), api.OK)
	normal(t, long(201), "", api.ErrLong)
	normal(t, long(100)+long(100), long(100)+long(100), api.OK)
	normal(t, long(100)+long(101), "", api.ErrLong)
	normal(t, long(100)+"/./"+long(100), long(100)+long(100), api.OK)
	normal(t, long(200)+strings.Repeat("/.", 500), long(200), api.OK)
	normal(t, long(5000)+"/../a", "/a", api.OK)
	normal(t, strings.Repeat("/a", 100), strings.Repeat("/a", 100), api.OK)
	normal(t, strings.Repeat("/a", 101), "", api.ErrLong)
	normal(t, strings.Repeat("/a", 101)+"/..", strings.Repeat("/a", 100), api.OK)
}

// 3.1, R2: ErrPath is named ahead of ErrLong.
func TestNormalPathAheadOfLong(t *testing.T) {
	for _, p := range []string{long(201)[1:], long(300) + " ", long(300) + "/../../" + long(300), long(300) + "/..", " " + long(300)} {
		normal(t, p, "", api.ErrPath)
	}
}

// 3.1 and 3.5: of all short texts Normal answers what rewriting them answers, and of what it answers the same again.
func TestNormalAllShort(t *testing.T) {
	for _, p := range texts("/.a-?", 7) {
		want, err := rewritten(p)
		normal(t, p, want, err)
		if err == api.OK {
			normal(t, want, want, api.OK)
		}
		if (err == api.OK) != isPath.MatchString(want) {
			t.Errorf("Normal(%q): %q, %d is a path: %t", p, want, err, isPath.MatchString(want))
		}
	}
	for _, p := range texts("/.a", 5) {
		for _, q := range texts("/.b", 5) {
			want, err := rewritten("/" + p + "/" + q)
			normal(t, "/"+p+"/"+q, want, err)
		}
	}
}

// R1: a text of very many parts is gone through once.
func TestNormalManyParts(t *testing.T) {
	const n = 1 << 20
	normal(t, strings.Repeat("/", n)+"a", "/a", api.OK)
	normal(t, strings.Repeat("/a", n)+strings.Repeat("/..", n)+"/b", "/b", api.OK)
	normal(t, strings.Repeat("/a", n)+strings.Repeat("/..", n+1), "", api.ErrPath)
	normal(t, strings.Repeat("/a/..", n)+"/b", "/b", api.OK)
	normal(t, strings.Repeat("/a", n), "", api.ErrLong)
}

// 3.2: up to the last slash, without it.
func TestDir(t *testing.T) {
	for _, x := range [][2]string{
		{"/a", ""},
		{"/a/b", "/a"},
		{"/a/b/c.ts", "/a/b"},
		{"/", ""},
		{"", ""},
		{"a", ""},
		{"a.ts", ""},
		{"a/b", "a"},
		{"/a/", "/a"},
		{"/a//", "/a/"},
		{"//", "/"},
		{"/a b/\xff", "/a b"},
		{"/../..", "/.."},
		{"ä/ö", "ä"},
	} {
		if d := Dir(x[0]); d != x[1] {
			t.Errorf("Dir(%q): %q, want %q", x[0], d, x[1])
		}
	}
	for _, n := range []int{201, 5000} {
		if d := Dir(long(n) + "/a"); d != long(n) {
			t.Errorf("Dir of %d bytes and a part: %d bytes", n, len(d))
		}
	}
}

// 3.3: a request is told from the folder of the path.
func TestJoin(t *testing.T) {
	for _, x := range [][3]string{
		{"/x/y.ts", "../z", "/z"},
		{"/x/y.ts", "./z", "/x/z"},
		{"/y.ts", "./z", "/z"},
		{"/a/b/c.ts", "../d/e", "/a/d/e"},
		{"/a/b/c.ts", "../../d", "/d"},
		{"/a/b/c.ts", "./../d", "/a/d"},
		{"/a/b/c.ts", ".//d/./e/", "/a/b/d/e"},
		{"/a/b.ts", "./", "/a"},
		{"/a/b/c.ts", "../", "/a"},
		{"/a/b.ts", "./..z", "/a/..z"},
		{"/a/b.ts", "./.../z", "/a/.../z"},
		{"", "./z", "/z"},
		{"y.ts", "./z", "/z"},
		{"/", "./z", "/z"},
		{"/a/", "./z", "/a/z"},
		{"/a//b.ts", "../z", "/z"},
		{"/a/../b/c.ts", "./z", "/b/z"},
		{"/x/ ", "./z", "/x/z"},
	} {
		join(t, x[0], x[1], x[2], api.OK)
	}
}

// 3.3: ErrPath of a request that begins with neither ./ nor ../, and of what Normal refuses.
func TestJoinNoPath(t *testing.T) {
	for _, request := range []string{"", "z", "/z", ".", "..", "...", ".../z", ".z", "..z", "z/./y", "z/../y", " ./z", "\\z", "./z ", "./ä", "../z?"} {
		join(t, "/x/y.ts", request, "", api.ErrPath)
	}
	for _, x := range [][2]string{
		{"/y.ts", "../z"},
		{"/x/y.ts", "../../z"},
		{"/x/y.ts", "./../../z"},
		{"/y.ts", "./"},
		{"/x/y.ts", "../"},
		{"/x/y.ts", "./.."},
		{"x/y.ts", "./z"},
		{"../y.ts", "./z"},
		{"/x y/z.ts", "./z"},
		{"", "../z"},
		{"", ""},
	} {
		join(t, x[0], x[1], "", api.ErrPath)
	}
}

// 3.3: the path's length counts, not that of what it is joined from; the request's beginning is asked first.
func TestJoinLong(t *testing.T) {
	join(t, long(100)+"/y.ts", "."+long(100), long(100)+long(100), api.OK)
	join(t, long(100)+"/y.ts", "."+long(101), "", api.ErrLong)
	join(t, long(300)+"/y.ts", "../z", "/z", api.OK)
	join(t, "/x/"+long(300), "./z", "/x/z", api.OK)
	join(t, "/y.ts", "."+long(200), long(200), api.OK)
	join(t, "/y.ts", "."+long(201), "", api.ErrLong)
	join(t, long(300)+"/y.ts", "z", "", api.ErrPath)
	join(t, long(300)+"/y.ts", "./ ", "", api.ErrPath)
}

// 3.3 and 3.5: of all short texts Join answers what the words say, and a path, if anything.
func TestJoinAllShort(t *testing.T) {
	for _, from := range texts("/.a", 5) {
		for _, request := range texts("/.b", 5) {
			want, err := "", api.ErrPath
			if strings.HasPrefix(request, "./") || strings.HasPrefix(request, "../") {
				want, err = rewritten(from[:max(0, strings.LastIndex(from, "/"))] + "/" + request)
			}
			join(t, from, request, want, err)
			if err == api.OK && !isPath.MatchString(want) {
				t.Errorf("Join(%q, %q): %q is no path", from, request, want)
			}
		}
	}
}

// 3.5: ./ and one part leads into the folder of a path.
func TestJoinOnePart(t *testing.T) {
	for _, from := range []string{"/a", "/a.ts", "/a/b", "/a/b/c.ts", "/.../x", "/a/..b/c", "/a-b/c_d/e.f", long(150) + "/x"} {
		for _, part := range []string{"z", "z.ts", "...", "..z", ".z", "-", "_", "0", "Z9"} {
			join(t, from, "./"+part, Dir(from)+"/"+part, api.OK)
		}
	}
}

// 3.4: the text, then with .ts, then with /index.ts.
func TestProbes(t *testing.T) {
	for _, p := range []string{"/a", "/a.ts", "/a/b", "", "x y", "/", "\xff", "/a/index.ts"} {
		if l := Probes(p); !slices.Equal(l, []string{p, p + ".ts", p + "/index.ts"}) {
			t.Errorf("Probes(%q): %q", p, l)
		}
	}
}

// 3.4: what would have more than 200 bytes is left out.
func TestProbesLong(t *testing.T) {
	for n := 185; n < 210; n++ {
		p := long(n)
		var want []string
		if n <= 200 {
			want = append(want, p)
		}
		if n <= 197 {
			want = append(want, p+".ts")
		}
		if n <= 191 {
			want = append(want, p+"/index.ts")
		}
		if l := Probes(p); !slices.Equal(l, want) {
			t.Errorf("Probes of %d bytes: %q", n, l)
		}
	}
	if l := Probes(long(100000)); len(l) != 0 {
		t.Errorf("Probes of 100000 bytes: %d", len(l))
	}
}

// 3.4, R4: a list that is answered is its caller's: what is done to it, its spare room too, shows in no other one.
func TestProbesIsItsCallers(t *testing.T) {
	for _, p := range []string{"/a", long(195), long(200)} {
		l, m := Probes(p), Probes(p)
		want := slices.Clone(m)
		for i := range l[:cap(l)] {
			l[:cap(l)][i] = "?"
		}
		if !slices.Equal(m, want) || !slices.Equal(Probes(p), want) {
			t.Errorf("Probes of %d bytes: %q, then %q, want %q", len(p), m, Probes(p), want)
		}
		if unsafe.SliceData(l) == unsafe.SliceData(m) {
			t.Errorf("Probes of %d bytes: two answers share memory", len(p))
		}
	}
}

// shares tells whether two texts have a byte of memory in common.
func shares(a, b string) bool {
	at, bt := uintptr(unsafe.Pointer(unsafe.StringData(a))), uintptr(unsafe.Pointer(unsafe.StringData(b)))
	return at < bt+uintptr(len(b)) && bt < at+uintptr(len(a))
}

// R4: the texts that are answered are new memory as well.
func TestTextsAreNew(t *testing.T) {
	p, request := strings.Clone("/some/where/a.ts"), strings.Clone("./b/c.ts")
	q, _ := Normal(p)
	d := Dir(p)
	j, _ := Join(p, request)
	l := append([]string{q, d, j}, Probes(p)...)
	for i, a := range l {
		if shares(a, p) || shares(a, request) {
			t.Errorf("%q shares memory with what was handed in", a)
		}
		for _, b := range l[:i] {
			if shares(a, b) {
				t.Errorf("%q and %q share memory", a, b)
			}
		}
	}
	if p != "/some/where/a.ts" || request != "./b/c.ts" {
		t.Errorf("what was handed in was changed: %q, %q", p, request)
	}
}
