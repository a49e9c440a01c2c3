package path

import (
	"slices"
	"strings"
	"testing"

	"purlieu/api"
)

func rel(parts ...string) api.Path { return api.Path{Parts: parts} }

func abs(parts ...string) api.Path { return api.Path{Abs: true, Parts: parts} }

// dir answers p with a / behind.
func dir(p api.Path) api.Path {
	p.Dir = true
	return p
}

func same(p, q api.Path) bool {
	return p.Abs == q.Abs && p.Dir == q.Dir && slices.Equal(p.Parts, q.Parts)
}

func isZero(p api.Path) bool { return !p.Abs && !p.Dir && len(p.Parts) == 0 }

// of answers n bytes of a name.
func of(n int) string { return strings.Repeat("x", n) }

// texts answers all texts of at most n of these pieces.
func texts(n int, pieces ...string) []string {
	all, last := []string{""}, []string{""}
	for range n {
		var next []string
		for _, s := range last {
			for _, piece := range pieces {
				next = append(next, s+piece)
			}
		}
		all, last = append(all, next...), next
	}
	return all
}

// paths are paths with and without parts, the ones that no text has among them.
func paths() []api.Path {
	var all []api.Path
	for _, parts := range [][]string{
		nil, {}, {"a"}, {"."}, {".."}, {"...", ".a"}, {"a", "b"}, {"a", "."}, {".", "a"}, {"a", ".."}, {"..", "a"},
		{".", "."}, {".", "a", ".", "b", "."}, {"a", "b", "c", "d", "e"}, {""}, {"", "."}, {"a", "", "b"}, {"a/b", "."}, {"\x00"}, {"..", ".", ".."},
		{of(api.MaxName), of(api.MaxName + 1)}, slices.Repeat([]string{"a", "."}, 200),
	} {
		for i := range 4 {
			all = append(all, api.Path{Abs: i%2 == 1, Dir: i/2 == 1, Parts: parts})
		}
	}
	return all
}

// P3.1: ordinary texts, and the edges of /.
func TestParse(t *testing.T) {
	for s, want := range map[string]api.Path{
		"a":              rel("a"),
		"a/b":            rel("a", "b"),
		"/a":             abs("a"),
		"/a/b/c":         abs("a", "b", "c"),
		"a/":             dir(rel("a")),
		"/a/":            dir(abs("a")),
		"a/b///":         dir(rel("a", "b")),
		"/a//b/":         dir(abs("a", "b")),
		"///a////b":      abs("a", "b"),
		"/":              abs(),
		"//":             abs(),
		"/////":          abs(),
		".":              rel("."),
		"..":             rel(".."),
		"./":             dir(rel(".")),
		"/.":             abs("."),
		"/..":            abs(".."),
		"../../a":        rel("..", "..", "a"),
		"a/./../b/.":     rel("a", ".", "..", "b", "."),
		"...":            rel("..."),
		" /\t":           rel(" ", "\t"),
		"\\/a\\b":        rel("\\", "a\\b"),
		"\x01/\x7f":      rel("\x01", "\x7f"),
		"ä/日本/":          dir(rel("ä", "日本")),
		"\xff/\xe2/\xaf": rel("\xff", "\xe2", "\xaf"),
	} {
		if p, err := Parse(s); err != api.OK || !same(p, want) {
			t.Errorf("Parse(%q) = %v, %v, want %v", s, p, err, want)
		}
	}
}

// P3.1: each byte but 0 and / is a part like any other.
func TestParseEachByte(t *testing.T) {
	for b := 1; b < 256; b++ {
		s := string([]byte{'a', byte(b), 'b'})
		want := rel(s)
		if b == '/' {
			want = rel("a", "b")
		}
		if p, err := Parse(s); err != api.OK || !same(p, want) {
			t.Errorf("Parse(%q) = %v, %v, want %v", s, p, err, want)
		}
	}
}

// P3.1: the bounds, each itself allowed; bytes are counted, not runes.
func TestParseBounds(t *testing.T) {
	name, over := of(api.MaxName), of(api.MaxName+1)
	for _, c := range []struct {
		s   string
		n   int
		err api.Errno
	}{
		{name, 1, api.OK},
		{over, 0, api.ENAMETOOLONG},
		{"/" + name + "/", 1, api.OK},
		{"/" + over + "/", 0, api.ENAMETOOLONG},
		{"a/" + name + "/b", 3, api.OK},
		{"a/" + over + "/b", 0, api.ENAMETOOLONG},
		{over + "/a", 0, api.ENAMETOOLONG},
		{"a/" + over, 0, api.ENAMETOOLONG},
		{strings.Repeat("ä", api.MaxName/2), 1, api.OK},
		{strings.Repeat("ä", api.MaxName/2) + "a", 0, api.ENAMETOOLONG},
		{strings.Repeat("ä", api.MaxName/2+1), 0, api.ENAMETOOLONG},
		{strings.Repeat("/", api.MaxPath), 0, api.OK},
		{strings.Repeat("/", api.MaxPath+1), 0, api.ENAMETOOLONG},
		{strings.Repeat("a/", api.MaxPath/2), api.MaxPath / 2, api.OK},
		{strings.Repeat("a/", api.MaxPath/2) + "a", 0, api.ENAMETOOLONG},
		{strings.Repeat("/a", api.MaxPath/2), api.MaxPath / 2, api.OK},
		{strings.Repeat("/a", api.MaxPath/2) + "/", 0, api.ENAMETOOLONG},
		{strings.Repeat(name+"/", 7) + of(api.MaxPath-7*(api.MaxName+1)), 8, api.OK},
		{strings.Repeat(name+"/", 7) + of(api.MaxPath-7*(api.MaxName+1)+1), 0, api.ENAMETOOLONG},
		{of(api.MaxPath), 0, api.ENAMETOOLONG},
		{of(1 << 20), 0, api.ENAMETOOLONG},
	} {
		p, err := Parse(c.s)
		if err != c.err || len(p.Parts) != c.n || err != api.OK && !isZero(p) {
			t.Errorf("Parse(%q) = %v, %v, want %d parts, %v", c.s, p, err, c.n, c.err)
		}
	}
}

// P3.1: wrong texts, and which error is first where several hold.
func TestParseRefuses(t *testing.T) {
	over := of(api.MaxName + 1)
	for s, want := range map[string]api.Errno{
		"":                                    api.ENOENT,
		"\x00":                                api.EINVAL,
		"a\x00":                               api.EINVAL,
		"\x00a":                               api.EINVAL,
		"/a/\x00/b":                           api.EINVAL,
		"a/b/\x00":                            api.EINVAL,
		"/\x00":                               api.EINVAL,
		over + "\x00":                         api.EINVAL,
		over + "/\x00":                        api.EINVAL,
		"\x00/" + over:                        api.EINVAL,
		of(api.MaxPath-1) + "\x00":            api.EINVAL,
		of(api.MaxPath) + "\x00":              api.ENAMETOOLONG,
		"\x00" + of(api.MaxPath):              api.ENAMETOOLONG,
		strings.Repeat("\x00", api.MaxPath):   api.EINVAL,
		strings.Repeat("\x00", api.MaxPath+1): api.ENAMETOOLONG,
		strings.Repeat("a/", api.MaxPath) + "\x00": api.ENAMETOOLONG,
	} {
		if p, err := Parse(s); err != want || !isZero(p) {
			t.Errorf("Parse(%q) = %v, %v, want none, %v", s, p, err, want)
		}
	}
}

// said answers what Parse should, word by word of the chapter.
func said(s string) (api.Path, api.Errno) {
	parts := slices.DeleteFunc(strings.Split(s, "/"), func(part string) bool { return part == "" })
	long := slices.ContainsFunc(parts, func(part string) bool { return len(part) > 32 })
	for _, c := range []struct {
		wrong bool
		err   api.Errno
	}{{s == "", api.ENOENT}, {len(s) > 256, api.ENAMETOOLONG}, {strings.IndexByte(s, 0) >= 0, api.EINVAL}, {long, api.ENAMETOOLONG}} {
		if c.wrong {
			return api.Path{}, c.err
		}
	}
	return api.Path{Abs: strings.HasPrefix(s, "/"), Dir: strings.HasSuffix(s, "/") && len(parts) > 0, Parts: parts}, api.OK
}

// P3.1, P3.4: over all short texts, and over those of long pieces.
func TestParseAndBack(t *testing.T) {
	all := texts(7, "/", ".", "a", "\x00")
	all = append(all, texts(5, "/", "..", "\xff", "a b")...)
	all = append(all, texts(4, "/", of(31), of(32), of(33), strings.Repeat("/a", 50), "\x00")...)
	for _, s := range all {
		p, err := Parse(s)
		want, wantErr := said(s)
		if err != wantErr || !same(p, want) {
			t.Fatalf("Parse(%q) = %v, %v, want %v, %v", s, p, err, want, wantErr)
		}
		if err != api.OK {
			continue
		}
		if again, err := Parse(Show(p)); err != api.OK || !same(again, p) {
			t.Fatalf("Parse of %q, that Show told of %q: %v, %v, was %v", Show(p), s, again, err, p)
		}
	}
}

// P3.2
func TestShow(t *testing.T) {
	for _, c := range []struct {
		p    api.Path
		want string
	}{
		{rel("a"), "a"},
		{rel("a", "b"), "a/b"},
		{abs("a", "b"), "/a/b"},
		{dir(rel("a")), "a/"},
		{dir(abs("a", "b")), "/a/b/"},
		{rel(), ""},
		{abs(), "/"},
		{dir(rel()), ""},
		{dir(abs()), "/"},
		{api.Path{Parts: []string{}}, ""},
		{dir(api.Path{Parts: []string{}}), ""},
		{rel(".", ".."), "./.."},
		{dir(rel("..")), "../"},
		{dir(abs(".")), "/./"},
		{rel("ä", "\xff"), "ä/\xff"},
		{rel(of(40), "\x00"), of(40) + "/\x00"},
		{rel(slices.Repeat([]string{"a"}, 300)...), strings.Repeat("a/", 299) + "a"},
	} {
		if s := Show(c.p); s != c.want {
			t.Errorf("Show(%v) = %q, want %q", c.p, s, c.want)
		}
	}
}

// P3.2
func TestUp(t *testing.T) {
	for _, p := range paths() {
		want := false
		for _, part := range p.Parts {
			want = want || part == ".."
		}
		if Up(p) != want {
			t.Errorf("Up(%v) = %t", p, !want)
		}
	}
	for _, p := range []api.Path{rel(".."), abs(".."), dir(rel("a", "..")), rel("..", "a"), rel("a", "..", "b")} {
		if !Up(p) {
			t.Errorf("Up(%v) = false", p)
		}
	}
	for _, p := range []api.Path{rel(), abs(), rel("."), rel("..."), rel("a", "..b"), rel("a.."), rel("../a"), rel(".", ".")} {
		if Up(p) {
			t.Errorf("Up(%v) = true", p)
		}
	}
}

// P3.2
func TestPlain(t *testing.T) {
	for _, c := range []struct{ p, want api.Path }{
		{rel("a"), rel("a")},
		{rel("a", "b"), rel("a", "b")},
		{dir(abs("a")), dir(abs("a"))},
		{rel(".", "a"), rel("a")},
		{rel("a", "."), dir(rel("a"))},
		{dir(rel("a", ".")), dir(rel("a"))},
		{dir(rel(".", "a")), dir(rel("a"))},
		{abs(".", "a", ".", "b"), abs("a", "b")},
		{rel(".", "a", ".", "b", "."), dir(rel("a", "b"))},
		{abs("a", ".", "."), dir(abs("a"))},
		{rel("a", ".."), rel("a", "..")},
		{rel("..", "."), dir(rel(".."))},
		{rel("...", ".a", "a."), rel("...", ".a", "a.")},
		{rel(), rel()},
		{abs(), abs()},
		{dir(rel()), rel()},
		{dir(abs()), abs()},
		{rel("."), rel()},
		{abs("."), abs()},
		{dir(rel(".")), rel()},
		{dir(abs(".", ".")), abs()},
	} {
		if q := Plain(c.p); !same(q, c.want) {
			t.Errorf("Plain(%v) = %v, want %v", c.p, q, c.want)
		}
	}
}

// P3.2: what Plain keeps and leaves out, of all kinds of paths; a second time it leaves out nothing.
func TestPlainOfAll(t *testing.T) {
	for _, p := range paths() {
		var left []string
		for _, part := range p.Parts {
			if part != "." {
				left = append(left, part)
			}
		}
		last := len(p.Parts) > 0 && p.Parts[len(p.Parts)-1] == "."
		want := api.Path{Abs: p.Abs, Dir: len(left) > 0 && (p.Dir || last), Parts: left}
		if q := Plain(p); !same(q, want) || !same(Plain(q), q) {
			t.Errorf("Plain(%v) = %v, want %v", p, q, want)
		}
	}
}

// P3.2
func TestJoin(t *testing.T) {
	for _, c := range []struct{ p, q, want api.Path }{
		{rel("a"), rel("b"), rel("a", "b")},
		{abs("a"), rel("b", "c"), abs("a", "b", "c")},
		{dir(rel("a")), rel("b"), rel("a", "b")},
		{rel("a"), dir(rel("b")), dir(rel("a", "b"))},
		{rel("a"), abs("b"), abs("b")},
		{dir(abs("a")), dir(abs("b")), dir(abs("b"))},
		{abs("a"), abs(), abs()},
		{abs(), rel("a"), abs("a")},
		{abs(), dir(rel("a")), dir(abs("a"))},
		{abs(), rel(), abs()},
		{rel(), rel("a"), rel("a")},
		{rel(), dir(rel("a")), dir(rel("a"))},
		{dir(rel()), rel("a"), rel("a")},
		{rel(), abs("a"), abs("a")},
		{rel(), rel(), rel()},
		{rel("a"), rel(), rel("a")},
		{dir(rel("a")), rel(), dir(rel("a"))},
		{rel("a"), dir(rel()), rel("a")},
		{dir(abs("a")), dir(rel()), dir(abs("a"))},
		{rel("a", "."), rel("..", "b"), rel("a", ".", "..", "b")},
		{rel("a", "b"), rel("a", "b"), rel("a", "b", "a", "b")},
	} {
		if got := Join(c.p, c.q); !same(got, c.want) {
			t.Errorf("Join(%v, %v) = %v, want %v", c.p, c.q, got, c.want)
		}
	}
}

// P3.2: of all pairs; no bound of a text's bytes holds of paths that are joined.
func TestJoinOfAll(t *testing.T) {
	for _, p := range paths() {
		for _, q := range paths() {
			want := q
			if !q.Abs && (p.Abs || len(p.Parts) > 0) {
				want = api.Path{Abs: p.Abs, Dir: q.Dir, Parts: append(slices.Clone(p.Parts), q.Parts...)}
				if len(q.Parts) == 0 {
					want.Dir = p.Dir
				}
			}
			if got := Join(p, q); !same(got, want) {
				t.Errorf("Join(%v, %v) = %v, want %v", p, q, got, want)
			}
		}
	}
}

// P3.3
func TestName(t *testing.T) {
	name, over := of(api.MaxName), of(api.MaxName+1)
	for s, want := range map[string]api.Errno{
		"a": api.OK, "ab.c": api.OK, "...": api.OK, ".a": api.OK, "a.": api.OK, "..a": api.OK, ". ": api.OK, " ": api.OK,
		"\\": api.OK, "\x01": api.OK, "\xff": api.OK, "ä": api.OK, name: api.OK, strings.Repeat(".", api.MaxName): api.OK,
		strings.Repeat("ä", api.MaxName/2): api.OK,

		"": api.ENOENT,

		over: api.ENAMETOOLONG, strings.Repeat("ä", api.MaxName/2+1): api.ENAMETOOLONG, of(1 << 20): api.ENAMETOOLONG,
		over + "/": api.ENAMETOOLONG, "\x00" + over: api.ENAMETOOLONG, strings.Repeat(".", api.MaxName+1): api.ENAMETOOLONG,
		name + "/": api.ENAMETOOLONG, name + "\x00": api.ENAMETOOLONG,

		".": api.EINVAL, "..": api.EINVAL, "/": api.EINVAL, "//": api.EINVAL, "a/b": api.EINVAL, "/a": api.EINVAL, "a/": api.EINVAL,
		"./": api.EINVAL, "../a": api.EINVAL, "\x00": api.EINVAL, "a\x00": api.EINVAL, "\x00a": api.EINVAL, "a\x00b": api.EINVAL,
		name[1:] + "/": api.EINVAL, name[1:] + "\x00": api.EINVAL, "/" + name[1:]: api.EINVAL,
	} {
		if err := Name(s); err != want {
			t.Errorf("Name(%q) = %v, want %v", s, err, want)
		}
	}
}

// P3.3, P3.1: a name is a text with itself as its one part, but for "." and "..".
func TestNamesAreParts(t *testing.T) {
	for _, s := range append(texts(6, "/", ".", "a", "\x00"), texts(3, of(15), of(16), "/", "\xff")...) {
		p, err := Parse(s)
		want := err == api.OK && same(p, rel(s)) && s != "." && s != ".."
		if (Name(s) == api.OK) != want {
			t.Errorf("Name(%q) = %v, Parse = %v, %v", s, Name(s), p, err)
		}
	}
}

// roomy answers a list with marks in its spare room, and a look at all of it.
func roomy(l []string) ([]string, []string) {
	whole := append(slices.Clone(l), "mark", "mark", "mark")
	return whole[:len(l)], whole
}

// scribble writes over a list, its spare room included.
func scribble(l []string) {
	l = l[:cap(l)]
	for i := range l {
		l[i] = "over"
	}
}

// The rule of memory, for each call that takes or answers a path: nothing of it is changed, nor shared with an answer.
func TestMemory(t *testing.T) {
	for _, p := range paths() {
		for _, q := range paths() {
			checkMemory(t, p, q)
		}
	}
}

func checkMemory(t *testing.T, p, q api.Path) {
	var wholeP, wholeQ []string
	p.Parts, wholeP = roomy(p.Parts)
	q.Parts, wholeQ = roomy(q.Parts)
	wasP, wasQ := slices.Clone(wholeP), slices.Clone(wholeQ)
	first, _ := Parse("/a/./b/")
	second, _ := Parse("/a/./b/")
	answers := []api.Path{first, second, Plain(p), Plain(p), Join(p, q), Join(q, p), Join(p, p), Join(p, q), Join(rel(), q), Join(p, abs())}
	Show(p)
	Up(p)
	told := make([][]string, len(answers))
	for i, a := range answers {
		told[i] = slices.Clone(a.Parts)
	}
	for i := range answers {
		scribble(answers[i].Parts)
		for j := i + 1; j < len(answers); j++ {
			if !slices.Equal(answers[j].Parts, told[j]) {
				t.Fatalf("answers %d and %d share memory, of %v and %v", i, j, p, q)
			}
		}
	}
	if !slices.Equal(wholeP, wasP) || !slices.Equal(wholeQ, wasQ) {
		t.Fatalf("an argument is changed: %q of %q, %q of %q", wholeP, wasP, wholeQ, wasQ)
	}
}

// P3.1, P3.2: the chapter's example.
func TestExample(t *testing.T) {
	p, err := Parse("/a//b/")
	if err != api.OK || !p.Abs || !p.Dir || !slices.Equal(p.Parts, []string{"a", "b"}) || Show(p) != "/a/b/" {
		t.Errorf("Parse = %v, %v", p, err)
	}
}
