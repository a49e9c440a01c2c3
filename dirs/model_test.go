package dirs

import (
	"fmt"
	"slices"
	"strings"
	"testing"

	"purlieu/api"
)

// plain is a directory as the chapter says it: a map, sorted each time that names are told.
type plain map[string]int

// nameError is what chapter 3 says of a name.
func nameError(s string) api.Errno {
	if s == "" {
		return api.ENOENT
	}
	if len(s) > 32 {
		return api.ENAMETOOLONG
	}
	if s == "." || s == ".." || strings.Contains(s, "/") || strings.Contains(s, "\x00") {
		return api.EINVAL
	}
	return api.OK
}

func (p plain) add(name string, ino int) api.Errno {
	if e := nameError(name); e != api.OK {
		return e
	}
	if ino < 1 {
		return api.EINVAL
	}
	if _, there := p[name]; there {
		return api.EEXIST
	}
	if len(p) == 64 {
		return api.ENOSPC
	}
	p[name] = ino
	return api.OK
}

func (p plain) set(name string, ino int) (int, api.Errno) {
	if ino < 1 {
		return 0, api.EINVAL
	}
	had, there := p[name]
	if !there {
		return 0, api.ENOENT
	}
	p[name] = ino
	return had, api.OK
}

func (p plain) remove(name string) (int, api.Errno) {
	had, there := p[name]
	if !there {
		return 0, api.ENOENT
	}
	delete(p, name)
	return had, api.OK
}

// less compares two names byte by byte.
func less(a, b string) bool {
	for i := 0; i < len(a) && i < len(b); i++ {
		if a[i] != b[i] {
			return a[i] < b[i]
		}
	}
	return len(a) < len(b)
}

// names puts each name ahead of the first that is greater.
func (p plain) names() []string {
	var all []string
	for name := range p {
		at := 0
		for at < len(all) && less(all[at], name) {
			at++
		}
		all = slices.Insert(all, at, name)
	}
	return all
}

func (p plain) page(from, n int) []string {
	var got []string
	for i, name := range p.names() {
		if from >= 0 && i >= from && len(got) < n {
			got = append(got, name)
		}
	}
	return got
}

// step is a call that changes, or would change, a directory.
type step struct {
	what byte // '+' adds, '=' sets, '-' removes
	name string
	ino  int
}

// same makes a step on both, and tells whether both answer alike and have the same then.
func same(d *Dir, p plain, s step, ask []string) error {
	var got, want [2]int
	switch s.what {
	case '+':
		got[1], want[1] = int(d.Add(s.name, s.ino)), int(p.add(s.name, s.ino))
	case '=':
		n, e := d.Set(s.name, s.ino)
		m, f := p.set(s.name, s.ino)
		got, want = [2]int{n, int(e)}, [2]int{m, int(f)}
	case '-':
		n, e := d.Remove(s.name)
		m, f := p.remove(s.name)
		got, want = [2]int{n, int(e)}, [2]int{m, int(f)}
	}
	if got != want {
		return fmt.Errorf("%c %q %d: %v, not %v", s.what, s.name, s.ino, got, want)
	}
	if d.Len() != len(p) || !slices.Equal(d.Names(), p.names()) {
		return fmt.Errorf("%c %q %d: %d %q, not %q", s.what, s.name, s.ino, d.Len(), d.Names(), p.names())
	}
	for _, name := range ask {
		ino, ok := d.Find(name)
		if want, there := p[name]; ino != want || ok != there {
			return fmt.Errorf("%c %q %d: Find(%q) %d %v", s.what, s.name, s.ino, name, ino, ok)
		}
	}
	return nil
}

// P5.1 to P5.4: every row of four steps out of some comes to what the plain directory comes to.
func TestRowsAgainstPlain(t *testing.T) {
	ask := []string{"a", "ab", "b", "", "."}
	steps := []step{
		{'+', "a", 1}, {'+', "ab", 2}, {'+', "b", 3}, {'+', "a", 0}, {'+', "", 0}, {'+', ".", 1},
		{'=', "a", 4}, {'=', "ab", 5}, {'=', "b", 0}, {'=', "", 1},
		{'-', "a", 0}, {'-', "ab", 0}, {'-', "b", 0}, {'-', ".", 0},
	}
	n := len(steps)
	for row := range n * n * n * n {
		d, p := New(), plain{}
		for k, rest := 0, row; k < 4; k, rest = k+1, rest/n {
			if e := same(d, p, steps[rest%n], ask); e != nil {
				t.Fatalf("row %d, step %d: %v", row, k, e)
			}
		}
	}
}

// P5.1 to P5.4: a long row of steps, that fills the directory and empties it, comes to what the plain one comes to.
func TestLongRowAgainstPlain(t *testing.T) {
	seed := uint64(5)
	roll := func(n int) int {
		seed = seed*6364136223846793005 + 1442695040888963407
		return int(seed >> 33 % uint64(n))
	}
	ask := append(numbered(90), "", ".", "..", "a/b", long+"n", "f", "\xff")
	d, p := New(), plain{}
	most, emptied := 0, false
	for i := range 6000 {
		s := step{"+=-"[roll(3)], ask[roll(len(ask))], roll(12) - 1}
		if fills := i/1500%2 == 0; fills && s.what == '-' && roll(4) > 0 {
			s.what = '+'
		} else if !fills && s.what == '+' && roll(4) > 0 {
			s.what = '-'
		}
		if e := same(d, p, s, ask); e != nil {
			t.Fatalf("step %d: %v", i, e)
		}
		from, n := roll(70)-2, roll(70)-2
		if got, want := d.Page(from, n), p.page(from, n); !slices.Equal(got, want) {
			t.Fatalf("step %d: Page(%d, %d) %q, not %q", i, from, n, got, want)
		}
		most = max(most, d.Len())
		emptied = emptied || most == api.MaxEntries && d.Len() < 20
	}
	if most != api.MaxEntries || !emptied {
		t.Errorf("the row reaches %d entries, and gets few again: %v", most, emptied)
	}
}
