package namei

import (
	"slices"
	"strings"
	"testing"

	"purlieu/api"
	"purlieu/memfs"
)

// plain is a file system as its dump tells it: what is looked up here is looked up there.
type plain []api.Inode

// at answers the inode of that number; one of no kind, if there is none.
func (p plain) at(ino int) api.Inode {
	for _, x := range p {
		if x.Ino == ino {
			return x
		}
	}
	return api.Inode{}
}

// dirError is what P7.1 says of a directory to go into.
func (p plain) dirError(dir int) api.Errno {
	switch x := p.at(dir); {
	case x.Kind == 0:
		return api.ENOENT
	case x.Kind != api.KDir:
		return api.ENOTDIR
	case dir != 1 && x.Links == 0:
		return api.ENOENT
	}
	return api.OK
}

// find answers the inode of a part in a directory, or 0.
func (p plain) find(dir int, part string) int {
	x := p.at(dir)
	switch part {
	case ".":
		return dir
	case "..":
		return x.Parent
	}
	if i := slices.Index(x.Names, part); i >= 0 {
		return x.Inos[i]
	}
	return 0
}

// textError is what P3.1 says of a path.
func textError(s string) api.Errno {
	switch {
	case s == "":
		return api.ENOENT
	case len(s) > api.MaxPath:
		return api.ENAMETOOLONG
	case strings.ContainsRune(s, 0):
		return api.EINVAL
	}
	for _, part := range strings.Split(s, "/") {
		if len(part) > api.MaxName {
			return api.ENAMETOOLONG
		}
	}
	return api.OK
}

// going is a path that is half gone: by what way, in which directory, through how many symlinks and parts.
type going struct {
	plain
	how               api.How
	dir, links, steps int
	slash             bool
}

// walk is P8.2 from the beginning on.
func (p plain) walk(start int, s string, how api.How) (api.Found, api.Errno) {
	return going{plain: p, how: how, dir: start}.text(s, "")
}

// text goes a text, and behind it the rest of the path that it stands in: the two are joined as texts.
func (g going) text(s, rest string) (api.Found, api.Errno) {
	if e := textError(s); e != api.OK {
		return api.Found{}, e
	}
	if strings.HasPrefix(s, "/") {
		if g.how.Beneath {
			return api.Found{}, api.ENOTCAPABLE
		}
		g.dir = 1
	}
	if rest == "" && strings.HasSuffix(s, "/") && strings.Trim(s, "/") != "" {
		g.slash = true
	}
	return g.parts(strings.Trim(s+"/"+rest, "/"))
}

// parts goes a text that begins with a part, or is empty, and ends with one.
func (g going) parts(s string) (api.Found, api.Errno) {
	if s == "" {
		return api.Found{Dir: g.dir, Ino: g.dir, Slash: g.slash, Steps: g.steps}, api.OK
	}
	part, rest, _ := strings.Cut(s, "/")
	rest = strings.TrimLeft(rest, "/")
	if e := g.dirError(g.dir); e != api.OK {
		return api.Found{}, e
	}
	if part == ".." && g.how.Beneath {
		return api.Found{}, api.ENOTCAPABLE
	}
	x := g.at(g.find(g.dir, part))
	g.steps++
	if x.Kind == 0 && (rest != "" || !g.how.Parent) {
		return api.Found{}, api.ENOENT
	}
	if x.Kind == api.KSymlink && (rest != "" || g.how.Follow || g.slash) {
		if g.links++; g.links == 9 {
			return api.Found{}, api.ELOOP
		}
		return g.text(x.Text, rest)
	}
	if rest == "" {
		return g.last(part, x)
	}
	g.dir = x.Ino
	return g.parts(rest)
}

// last is P8.3 of a last part.
func (g going) last(part string, x api.Inode) (api.Found, api.Errno) {
	found := api.Found{Dir: g.dir, Name: part, Ino: x.Ino, Slash: g.slash, Steps: g.steps}
	if g.slash && x.Kind != 0 && x.Kind != api.KDir {
		return api.Found{}, api.ENOTDIR
	}
	if part == "." || part == ".." {
		found.Dir, found.Name = x.Ino, ""
	}
	return found, api.OK
}

// reach is P8.4: what is not in it yet is looked for till there is none.
func (p plain) reach(dir int) []int {
	if p.at(dir).Kind != api.KDir {
		return nil
	}
	in := []int{dir}
	for more := true; more; {
		more = false
		for _, x := range p {
			for _, ino := range x.Inos {
				if slices.Contains(in, x.Ino) && !slices.Contains(in, ino) {
					in, more = append(in, ino), true
				}
			}
		}
	}
	slices.Sort(in)
	return in
}

// agrees says that Walk tells what the model tells, and that P8.5 and P8.6 hold of it; reach is Reach of start.
func agrees(t *testing.T, f *memfs.FS, p plain, reach []int, start int, s string, how api.How) {
	t.Helper()
	got, e := Walk(f, start, s, how)
	if want, g := p.walk(start, s, how); got != want || e != g {
		t.Fatalf("Walk(%d, %q, %+v): %+v %d, not %+v %d\n%+v", start, s, how, got, e, want, g, p)
	}
	if e == api.OK && how.Beneath && (!slices.Contains(reach, got.Dir) || got.Ino != 0 && !slices.Contains(reach, got.Ino)) {
		t.Fatalf("Walk(%d, %q, %+v): %+v is not beneath: %v", start, s, how, got, reach)
	}
	if got.Steps > bound(s) {
		t.Fatalf("Walk(%d, %q, %+v): %d steps, more than %d", start, s, how, got.Steps, bound(s))
	}
}

// rows answers all rows of up to n of those parts, with a / between.
func rows(n int, parts ...string) []string {
	all, longest := []string{}, []string{""}
	for range n {
		var next []string
		for _, row := range longest {
			for _, part := range parts {
				next = append(next, strings.TrimPrefix(row+"/"+part, "/"))
			}
		}
		all, longest = append(all, next...), next
	}
	return all
}

// paths answers rows of names of varied, with a / ahead and behind or not.
func paths() []string {
	var all []string
	for _, s := range rows(2, "a", "b", "f", "c", "g", "s", "f2", "l", "lf", "ls", "gs", "abs", "top", "up", "self", "x", "lost", "losts", "bad", "badabs", "turns", "dot", "dots", "deep", "inf", "nothing", ".", "..") {
		all = append(all, s, "/"+s, s+"/", "/"+s+"/")
	}
	return all
}

// P8.1 to P8.6: all rows of two parts, and of four of fewer names, from all starts, by all ways, are as the model says.
func TestAllRows(t *testing.T) {
	f := varied(t)
	all := paths()
	for _, s := range rows(4, "a", "b", "f", "up", "l", "abs", ".", "..", "q") {
		all = append(all, s, s+"/")
	}
	p := plain(f.Dump())
	for _, start := range []int{1, dirA, dirB, dirC, fileF, linkB, heldDir, goneDir, 0} {
		reach := Reach(f, start)
		for _, s := range all {
			for _, how := range hows() {
				agrees(t, f, p, reach, start, s, how)
			}
		}
	}
}

// P8.4: Reach of each number is as the model says.
func TestReachByModel(t *testing.T) {
	f := varied(t)
	for ino := -1; ino < goneFile+2; ino++ {
		reaches(t, f, ino, plain(f.Dump()).reach(ino)...)
	}
}

// dice tells numbers that look like chance, the same each time.
type dice uint64

// upTo answers a number below n.
func (d *dice) upTo(n int) int {
	*d = *d*6364136223846793005 + 1442695040888963407
	return int(uint64(*d) >> 33 % uint64(n))
}

// text answers a path of some parts.
func (d *dice) text(most int) string {
	s := []string{"", "", "/"}[d.upTo(3)]
	for i := range d.upTo(most) + 1 {
		if i > 0 {
			s += []string{"/", "/", "/", "//"}[d.upTo(4)]
		}
		s += []string{"a", "b", "c", "d", "a", "b", ".", ".."}[d.upTo(8)]
	}
	return s + []string{"", "", "/", "//"}[d.upTo(4)]
}

// grow changes f by one call or by none, such as comes.
func (d *dice) grow(f *memfs.FS) {
	name := func() string { return []string{"a", "b", "c", "d"}[d.upTo(4)] }
	ino := func() int { return d.upTo(f.Next()) + 1 }
	switch d.upTo(10) {
	case 0, 1, 2:
		f.Create(ino(), name(), api.KDir, "")
	case 3, 4, 5:
		f.Create(ino(), name(), api.KSymlink, d.text(4))
	case 6:
		f.Create(ino(), name(), []int{api.KFile, api.KBound}[d.upTo(2)], "")
	case 7:
		f.Link(ino(), name(), ino())
	case 8:
		f.Rename(ino(), name(), ino(), name())
	case 9:
		f.Hold(ino())
		at, n := ino(), name()
		f.Unlink(at, n)
		f.Rmdir(at, n)
	}
}

// P8.1 to P8.6: in file systems such as come, paths such as come are as the model says.
func TestSuchAsComes(t *testing.T) {
	found, through := 0, 0
	for seed := range 300 {
		d := dice(seed)
		f := memfs.New(24, 0)
		for range 80 {
			d.grow(f)
		}
		was := show(f)
		p := plain(f.Dump())
		for start := range f.Next() + 1 {
			reaches(t, f, start, p.reach(start)...)
			reach := Reach(f, start)
			for range 12 {
				s := d.text(7)
				for _, how := range hows() {
					agrees(t, f, p, reach, start, s, how)
					if x, e := Walk(f, start, s, how); e == api.OK {
						found++
						if x.Steps > strings.Count(s, "/")+1 {
							through++
						}
					}
				}
			}
		}
		if now := show(f); now != was {
			t.Fatalf("changed\n%s\nto\n%s", was, now)
		}
	}
	if found < 20000 || through < 2000 {
		t.Errorf("only %d were found, %d of them through symlinks: the trial says little", found, through)
	}
	t.Logf("%d found, %d through symlinks", found, through)
}
