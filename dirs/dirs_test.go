package dirs

import (
	"fmt"
	"math"
	"slices"
	"strings"
	"testing"

	"purlieu/api"
)

// filled answers a directory with these names, added in this order; the first has the number 1, each one more.
func filled(t *testing.T, names ...string) *Dir {
	t.Helper()
	d := New()
	for i, name := range names {
		add(t, d, name, i+1)
	}
	return d
}

// add makes an entry, which must go well.
func add(t *testing.T, d *Dir, name string, ino int) {
	t.Helper()
	if e := d.Add(name, ino); e != api.OK {
		t.Fatalf("Add(%q, %d): %d", name, ino, e)
	}
}

// numbered answers n names that rise.
func numbered(n int) []string {
	names := make([]string, n)
	for i := range names {
		names[i] = fmt.Sprintf("f%03d", i)
	}
	return names
}

// show writes all that d tells: its names with their numbers, as they are told.
func show(d *Dir) string {
	s := ""
	for _, name := range d.Names() {
		ino, ok := d.Find(name)
		s += fmt.Sprintf("%q=%d,%v ", name, ino, ok)
	}
	return fmt.Sprintf("%d: %s", d.Len(), s)
}

// is says what d has, as pairs of a name and a number.
func is(t *testing.T, d *Dir, what string, pairs ...any) {
	t.Helper()
	s := ""
	for i := 0; i < len(pairs); i += 2 {
		s += fmt.Sprintf("%q=%d,true ", pairs[i], pairs[i+1])
	}
	if want := fmt.Sprintf("%d: %s", len(pairs)/2, s); show(d) != want {
		t.Errorf("%s: %s, not %s", what, show(d), want)
	}
}

// long is a name of as many bytes as a name may have.
var long = strings.Repeat("n", api.MaxName)

// refused are texts that are no names, with what path.Name says of them.
var refused = []struct {
	name string
	e    api.Errno
}{
	{"", api.ENOENT},
	{long + "n", api.ENAMETOOLONG},
	{strings.Repeat("/", api.MaxName+1), api.ENAMETOOLONG},
	{strings.Repeat("é", api.MaxName/2) + "x", api.ENAMETOOLONG},
	{".", api.EINVAL},
	{"..", api.EINVAL},
	{"/", api.EINVAL},
	{"a/b", api.EINVAL},
	{"a/", api.EINVAL},
	{"a\x00", api.EINVAL},
	{"\x00", api.EINVAL},
}

// allowed are texts that are names, though they look odd.
var allowed = []string{"...", ".a", "..a", "a.", " ", "-", "\n", "\x01", "\xff", "\xff\xff", "é", "\\", "*", long}

// P5.1: New has no entries; each is one more.
func TestNewAndLen(t *testing.T) {
	d := New()
	is(t, d, "new")
	if d.Len() != 0 || len(d.Names()) != 0 || len(d.Page(0, 10)) != 0 {
		t.Error("a new directory has entries")
	}
	for i, name := range numbered(api.MaxEntries) {
		add(t, d, name, 7)
		if d.Len() != i+1 {
			t.Fatalf("Len %d behind %d entries", d.Len(), i+1)
		}
	}
	if e := New(); e == nil || e.Len() != 0 {
		t.Error("a second directory is not a new one")
	}
}

// P5.1: directories know nothing of one another.
func TestTwoDirs(t *testing.T) {
	a, b := New(), New()
	add(t, a, "x", 1)
	is(t, b, "the other")
	add(t, b, "x", 2)
	add(t, b, "y", 3)
	a.Remove("x")
	is(t, a, "one")
	is(t, b, "the other", "x", 2, "y", 3)
}

// P5.1: Find answers a name's number and true, or 0 and false.
func TestFind(t *testing.T) {
	d := New()
	add(t, d, "m", 5)
	add(t, d, "b", math.MaxInt)
	add(t, d, "x", 1)
	for _, c := range []struct {
		name string
		ino  int
		ok   bool
	}{
		{"m", 5, true}, {"b", math.MaxInt, true}, {"x", 1, true},
		{"a", 0, false}, {"c", 0, false}, {"n", 0, false}, {"z", 0, false},
		{"M", 0, false}, {"mm", 0, false}, {"b\x00", 0, false}, {"x/", 0, false},
		{"", 0, false}, {".", 0, false}, {"..", 0, false}, {long + "n", 0, false},
	} {
		if ino, ok := d.Find(c.name); ino != c.ino || ok != c.ok {
			t.Errorf("Find(%q): %d %v", c.name, ino, ok)
		}
	}
}

// P5.1: in a directory of every length the first, the last, each between and each that is missing are told apart.
func TestFindAtEveryLength(t *testing.T) {
	for n := range api.MaxEntries + 1 {
		names := numbered(n)
		d := filled(t, names...)
		for i, name := range names {
			if ino, ok := d.Find(name); ino != i+1 || !ok {
				t.Fatalf("of %d, Find(%q): %d %v", n, name, ino, ok)
			}
			for _, none := range []string{name + "x", name[:len(name)-1], name[:1]} {
				if ino, ok := d.Find(none); ino != 0 || ok {
					t.Fatalf("of %d, Find(%q): %d %v", n, none, ino, ok)
				}
			}
		}
		for _, none := range []string{"", "a", "z"} {
			if ino, ok := d.Find(none); ino != 0 || ok {
				t.Fatalf("of %d, Find(%q): %d %v", n, none, ino, ok)
			}
		}
	}
}

// P5.1: a nil directory looks like one without entries, and is not changed: EINVAL, whatever else is wrong.
func TestNilDir(t *testing.T) {
	var d *Dir
	if d.Len() != 0 || len(d.Names()) != 0 || len(d.Page(0, 5)) != 0 || len(d.Page(-1, -1)) != 0 {
		t.Error("a nil directory has entries")
	}
	for _, name := range []string{"a", "", ".", "a/b", long + "n"} {
		if ino, ok := d.Find(name); ino != 0 || ok {
			t.Errorf("Find(%q): %d %v", name, ino, ok)
		}
		for _, ino := range []int{1, 0, -1, math.MaxInt} {
			if e := d.Add(name, ino); e != api.EINVAL {
				t.Errorf("Add(%q, %d): %d", name, ino, e)
			}
			if n, e := d.Set(name, ino); n != 0 || e != api.EINVAL {
				t.Errorf("Set(%q, %d): %d %d", name, ino, n, e)
			}
		}
		if n, e := d.Remove(name); n != 0 || e != api.EINVAL {
			t.Errorf("Remove(%q): %d %d", name, n, e)
		}
	}
}

// The zero value is not made by New: what it answers is open, but no call of it panics.
func TestZeroValueDoesNotPanic(t *testing.T) {
	var d Dir
	d.Len()
	d.Find("a")
	d.Set("a", 1)
	d.Remove("a")
	d.Names()
	d.Page(0, 1)
	d.Add("a", 1)
	d.Set("a", 2)
	d.Remove("a")
}

// P5.2: what Add makes is there.
func TestAdd(t *testing.T) {
	d := New()
	add(t, d, "m", 9)
	is(t, d, "the first entry", "m", 9)
	add(t, d, "z", 1)
	is(t, d, "one behind it", "m", 9, "z", 1)
	add(t, d, "a", math.MaxInt)
	is(t, d, "one ahead of it", "a", math.MaxInt, "m", 9, "z", 1)
	add(t, d, "n", 9)
	is(t, d, "one between, with a number twice", "a", math.MaxInt, "m", 9, "n", 9, "z", 1)
}

// P5.2: Add tells path.Name's error, ahead of a wrong number and of a directory without room.
func TestAddNames(t *testing.T) {
	full := filled(t, numbered(api.MaxEntries)...)
	for _, d := range []*Dir{New(), filled(t, "a"), full} {
		was := show(d)
		for _, c := range refused {
			for _, ino := range []int{1, 0, -1, math.MinInt} {
				if e := d.Add(c.name, ino); e != c.e {
					t.Errorf("of %d: Add(%q, %d): %d, not %d", d.Len(), c.name, ino, e, c.e)
				}
			}
		}
		if show(d) != was {
			t.Errorf("%s, not %s", show(d), was)
		}
	}
	for _, name := range allowed {
		d := New()
		add(t, d, name, 3)
		is(t, d, "an odd name", name, 3)
	}
}

// P5.2: Add tells a number below 1, ahead of a name that is there and of a directory without room.
func TestAddNumbers(t *testing.T) {
	full := filled(t, numbered(api.MaxEntries)...)
	for _, d := range []*Dir{New(), filled(t, "a"), full} {
		was := show(d)
		for _, name := range []string{"a", "f000", "z"} {
			for _, ino := range []int{0, -1, math.MinInt} {
				if e := d.Add(name, ino); e != api.EINVAL {
					t.Errorf("of %d: Add(%q, %d): %d", d.Len(), name, ino, e)
				}
			}
		}
		if show(d) != was {
			t.Errorf("%s, not %s", show(d), was)
		}
	}
}

// P5.2: Add tells a name that is there, whatever its number, ahead of a directory without room.
func TestAddThere(t *testing.T) {
	for _, n := range []int{1, 2, 3, api.MaxEntries} {
		names := numbered(n)
		d := filled(t, names...)
		was := show(d)
		for i, name := range names {
			for _, ino := range []int{i + 1, 1000, math.MaxInt} {
				if e := d.Add(name, ino); e != api.EEXIST {
					t.Errorf("of %d: Add(%q, %d): %d", n, name, ino, e)
				}
			}
		}
		if show(d) != was {
			t.Errorf("%s, not %s", show(d), was)
		}
	}
}

// P5.2: MaxEntries entries are allowed, one more is not; one that goes makes room for another.
func TestAddFull(t *testing.T) {
	names := numbered(api.MaxEntries)
	d := filled(t, names...)
	if d.Len() != 64 {
		t.Fatal(d.Len())
	}
	was := show(d)
	for _, name := range []string{"a", "f0005", "z"} {
		if e := d.Add(name, 1); e != api.ENOSPC {
			t.Errorf("Add(%q): %d", name, e)
		}
	}
	if show(d) != was || !slices.Equal(d.Names(), names) {
		t.Errorf("%s, not %s", show(d), was)
	}
	if n, e := d.Set(names[63], 99); n != 64 || e != api.OK {
		t.Errorf("Set in a full directory: %d %d", n, e)
	}
	if n, e := d.Remove(names[10]); n != 11 || e != api.OK {
		t.Errorf("Remove from a full directory: %d %d", n, e)
	}
	add(t, d, "a", 1)
	if e := d.Add(names[10], 11); e != api.ENOSPC {
		t.Errorf("full again, Add: %d", e)
	}
}

// P5.2: Set answers the number that there was, and lays the other; names stay as they are.
func TestSet(t *testing.T) {
	d := filled(t, "b", "a", "c")
	for _, c := range []struct {
		name     string
		ino, had int
	}{{"a", 9, 2}, {"a", 9, 9}, {"a", 1, 9}, {"c", math.MaxInt, 3}, {"b", 7, 1}, {"c", 3, math.MaxInt}} {
		if had, e := d.Set(c.name, c.ino); had != c.had || e != api.OK {
			t.Errorf("Set(%q, %d): %d %d", c.name, c.ino, had, e)
		}
		if ino, ok := d.Find(c.name); ino != c.ino || !ok {
			t.Errorf("behind Set(%q, %d), Find: %d %v", c.name, c.ino, ino, ok)
		}
	}
	is(t, d, "all set", "a", 1, "b", 7, "c", 3)
}

// P5.2: Set tells a number below 1 ahead of a name that is not there; a text that is no name is not there.
func TestSetErrors(t *testing.T) {
	names := []string{"x", "aa", "A", "", ".", "..", "a/b", "a\x00", long + "n"}
	for _, d := range []*Dir{New(), filled(t, "a"), filled(t, numbered(api.MaxEntries)...)} {
		was := show(d)
		for _, name := range names {
			if had, e := d.Set(name, 1); had != 0 || e != api.ENOENT {
				t.Errorf("of %d: Set(%q, 1): %d %d", d.Len(), name, had, e)
			}
		}
		for _, name := range append(names, "a", "f000") {
			for _, ino := range []int{0, -1, math.MinInt} {
				if had, e := d.Set(name, ino); had != 0 || e != api.EINVAL {
					t.Errorf("of %d: Set(%q, %d): %d %d", d.Len(), name, ino, had, e)
				}
			}
		}
		if show(d) != was {
			t.Errorf("%s, not %s", show(d), was)
		}
	}
}

// P5.2: Remove answers the number that there was, and the entry is gone; the others stay.
func TestRemove(t *testing.T) {
	names := []string{"a", "b", "c", "d"}
	for i, name := range names {
		d := filled(t, names...)
		if had, e := d.Remove(name); had != i+1 || e != api.OK {
			t.Errorf("Remove(%q): %d %d", name, had, e)
		}
		var rest []any
		for k, other := range names {
			if k != i {
				rest = append(rest, other, k+1)
			}
		}
		is(t, d, "without "+name, rest...)
		if ino, ok := d.Find(name); ino != 0 || ok {
			t.Errorf("Find(%q) behind Remove: %d %v", name, ino, ok)
		}
		if had, e := d.Remove(name); had != 0 || e != api.ENOENT {
			t.Errorf("Remove(%q) again: %d %d", name, had, e)
		}
		is(t, d, "still without "+name, rest...)
	}
}

// P5.2: Remove tells a name that is not there; a text that is no name is not there.
func TestRemoveErrors(t *testing.T) {
	for _, d := range []*Dir{New(), filled(t, "a"), filled(t, numbered(api.MaxEntries)...)} {
		was := show(d)
		for _, name := range []string{"x", "aa", "A", "", ".", "..", "a/b", "a\x00", long + "n"} {
			if had, e := d.Remove(name); had != 0 || e != api.ENOENT {
				t.Errorf("of %d: Remove(%q): %d %d", d.Len(), name, had, e)
			}
		}
		if show(d) != was {
			t.Errorf("%s, not %s", show(d), was)
		}
	}
}

// P5.2: an entry is added behind it was removed, with a number of its own; the last that goes leaves none.
func TestAddBehindRemove(t *testing.T) {
	d := filled(t, "a", "b", "c")
	for i, name := range []string{"b", "a", "c"} {
		d.Remove(name)
		add(t, d, name, 10+i)
	}
	is(t, d, "all again", "a", 11, "b", 10, "c", 12)
	for _, name := range []string{"c", "a", "b"} {
		d.Remove(name)
	}
	is(t, d, "none")
	add(t, d, "b", 1)
	is(t, d, "one again", "b", 1)
}

// P5.3: names are told in the order of their bytes, however they were added.
func TestNamesInOrder(t *testing.T) {
	sorted := []string{"\x01", " ", "-", "...", "..a", ".a", "0", "10", "9", "A", "B", "Z", "_", "a", "a ", "a.b", "aa", "ab", "b", "z", "é", "\xfe", "\xff", "\xff\x01", "\xff\xff"}
	rows := [][]string{sorted, slices.Clone(sorted), slices.Clone(sorted)}
	slices.Reverse(rows[1])
	for i := range rows[2] {
		rows[2][i] = sorted[i*7%len(sorted)]
	}
	for _, row := range rows {
		if d := filled(t, row...); !slices.Equal(d.Names(), sorted) {
			t.Errorf("%q", d.Names())
		}
	}
}

// P5.3: of names of which one begins the other, the shorter comes first; neither is taken for the other.
func TestNamesThatBeginOthers(t *testing.T) {
	want := make([]string, api.MaxName)
	for i := range want {
		want[i] = long[:i+1]
	}
	for _, backward := range []bool{false, true} {
		row := slices.Clone(want)
		if backward {
			slices.Reverse(row)
		}
		d := filled(t, row...)
		if !slices.Equal(d.Names(), want) {
			t.Errorf("%q", d.Names())
		}
		for i, name := range row {
			if ino, ok := d.Find(name); ino != i+1 || !ok {
				t.Errorf("Find(%q): %d %v", name, ino, ok)
			}
		}
		d.Remove("nn")
		if !slices.Equal(d.Names(), slices.Delete(slices.Clone(want), 1, 2)) {
			t.Errorf("%q", d.Names())
		}
	}
}

// P5.3: Page tells n names at most from a place on, and none from a place or of a number below 0.
func TestPage(t *testing.T) {
	d := filled(t, "d", "a", "c", "b")
	for _, c := range []struct {
		from, n int
		want    string
	}{
		{0, 0, ""}, {0, 1, "a"}, {0, 3, "abc"}, {0, 4, "abcd"}, {0, 5, "abcd"}, {0, math.MaxInt, "abcd"},
		{1, 0, ""}, {1, 1, "b"}, {1, 2, "bc"}, {1, 3, "bcd"}, {1, 4, "bcd"}, {1, math.MaxInt, "bcd"},
		{3, 0, ""}, {3, 1, "d"}, {3, 2, "d"}, {3, math.MaxInt, "d"},
		{4, 0, ""}, {4, 1, ""}, {4, math.MaxInt, ""}, {5, 1, ""}, {5, math.MaxInt, ""},
		{math.MaxInt, 0, ""}, {math.MaxInt, 1, ""}, {math.MaxInt, math.MaxInt, ""},
		{-1, 0, ""}, {-1, 1, ""}, {-1, 2, ""}, {-1, 9, ""}, {-1, math.MaxInt, ""}, {math.MinInt, math.MaxInt, ""},
		{0, -1, ""}, {2, -1, ""}, {4, -1, ""}, {9, -1, ""}, {0, math.MinInt, ""}, {-1, -1, ""}, {math.MinInt, math.MinInt, ""}, {math.MaxInt, math.MinInt, ""},
	} {
		if got := strings.Join(d.Page(c.from, c.n), ""); got != c.want {
			t.Errorf("Page(%d, %d): %q, not %q", c.from, c.n, got, c.want)
		}
	}
	empty := New()
	for from := -2; from <= 2; from++ {
		for n := -2; n <= 2; n++ {
			if got := empty.Page(from, n); len(got) != 0 {
				t.Errorf("without entries, Page(%d, %d): %q", from, n, got)
			}
		}
	}
}

// P5.3: pages one behind another, of any size, are all names.
func TestPagesAreNames(t *testing.T) {
	d := filled(t, numbered(api.MaxEntries)...)
	for n := 1; n <= api.MaxEntries+1; n++ {
		var all []string
		for from := 0; from < d.Len(); from += n {
			page := d.Page(from, n)
			if len(page) != min(n, d.Len()-from) {
				t.Fatalf("Page(%d, %d) has %d names", from, n, len(page))
			}
			all = append(all, page...)
		}
		if !slices.Equal(all, d.Names()) {
			t.Errorf("pages of %d: %q", n, all)
		}
	}
}

// P5.3 and the rule of memory: what is told is new; whoever writes into it, spare room too, changes nothing else.
func TestAnswersAreNew(t *testing.T) {
	d := filled(t, "a", "b", "c", "d")
	was := show(d)
	lists := [][]string{d.Names(), d.Names(), d.Page(0, 4), d.Page(1, 2), d.Page(1, 2), d.Page(0, 1)}
	before := make([]string, len(lists))
	for i := range lists {
		before[i] = strings.Join(lists[i], ",")
	}
	for i := range lists {
		full := lists[i][:cap(lists[i])]
		for k := range full {
			full[k] = "scribbled"
		}
		for k := i + 1; k < len(lists); k++ {
			if got := strings.Join(lists[k], ","); got != before[k] {
				t.Errorf("list %d shares with list %d: %s", k, i, got)
			}
		}
		if show(d) != was {
			t.Errorf("list %d shares with the directory: %s", i, show(d))
		}
	}
	names := d.Names()
	d.Remove("a")
	add(t, d, "0", 9)
	d.Set("b", 8)
	if !slices.Equal(names, []string{"a", "b", "c", "d"}) {
		t.Errorf("what was told has changed: %q", names)
	}
}

// P5.4: in a directory of each size, no call that tells an error changes anything.
func TestErrorsChangeNothing(t *testing.T) {
	names := []string{"f000", "f001", "f031", "f063", "a", "z", "", ".", "..", "a/b", "\x00", long + "n"}
	for n := range api.MaxEntries + 1 {
		d := filled(t, numbered(n)...)
		was := show(d)
		for _, name := range names {
			for _, ino := range []int{math.MinInt, -1, 0, 1, 500} {
				_, there := d.Find(name)
				if ino < 1 || there || n == api.MaxEntries || slices.Contains(names[6:], name) {
					if e := d.Add(name, ino); e == api.OK {
						t.Fatalf("of %d: Add(%q, %d) went well", n, name, ino)
					}
				}
				if ino < 1 || !there {
					if _, e := d.Set(name, ino); e == api.OK {
						t.Fatalf("of %d: Set(%q, %d) went well", n, name, ino)
					}
				}
				if !there {
					if _, e := d.Remove(name); e == api.OK {
						t.Fatalf("of %d: Remove(%q) went well", n, name)
					}
				}
				if show(d) != was {
					t.Fatalf("of %d: %q %d changed it: %s", n, name, ino, show(d))
				}
			}
		}
	}
}

// Example 1 of the chapter.
func TestExample(t *testing.T) {
	d := New()
	if d.Add("b", 2) != api.OK || d.Add("a", 3) != api.OK || !slices.Equal(d.Names(), []string{"a", "b"}) {
		t.Errorf("%q", d.Names())
	}
}
