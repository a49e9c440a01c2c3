package dircalls

import (
	"fmt"
	"math"
	"slices"
	"strings"
	"testing"

	"purlieu/api"
	"purlieu/namei"
	"purlieu/slots"
	"purlieu/world"
)

// same does a call, and tells its answer, and whether it and what is there then is what the chapter says; and whether something is another one.
func same(t *testing.T, w *world.World, pid int, r api.Req) (api.Res, bool) {
	t.Helper()
	was := w.Dump()
	x, d := expect(was, w.Limits(), pid, r)
	got := Call(w, pid, r)
	now := w.Dump()
	if got.Val != x.Val || got.Err != x.Err || got.S != x.S || !slices.Equal(got.L, x.L) || !alike(now, d) {
		t.Fatalf("%d: %v from\n%+v\n%s\nnot\n%s", pid, r, was, told(got, now), told(x, d))
	}
	return got, !alike(now, was)
}

// texts are paths of all kinds in a scene.
var texts = []string{
	"", ".", "..", "/", "a", "a/", "f", "f/", "e", "e/", "d", "d/", "in", "in/", "sub", "sub/", "new", "new/", "up", "up/", "abs", "abs/", "s", "s/", "o", "o/", "l", "l/", "h", "h/",
	"e/g", "sub/g", "e/a", "sub/a/", "d/f", "l/f", "l/sub/g", "../f", "../d", "../a", "../l/", "/f", "/d/e", "/a", "/o", "f/a", "a/b", "e/..", "e/../f", "./f", "e/.", "h/.", "o/a", "new/a", "\x00", strings.Repeat("a", 33),
}

// few are some of texts: one or two of each kind.
var few = []string{"", ".", "/", "a", "a/", "f", "e", "in", "new/", "h/", "l", "../a", "/f", "e/g", "f/a"}

// fds are numbers of directories: each descriptor of a scene, the process's own directory, and some that there are none of.
var fds = []int{root, full, most, lists, lookup, inner, aFile, aPipe, aSock, aProc, removed, reads, free, cwd, -1, 15}

// ways of open.
var flags = []int{0, wr, creat | wr, creat | excl | both, both | trunc, direct, nofollow, app | nonblock, creat | trunc | wr | nofollow, 3, creat | direct}

// from answers each call from a directory's number, with a path.
func from(d int, s string) []api.Req {
	l := []api.Req{req(mkdirat, s, "", d), req(readlinkat, s, "", d), req(symlinkat, "f", s, d)}
	for how := range 3 {
		l = append(l, req(unlinkat, s, "", d, how), req(fstatat, s, "", d, how))
	}
	for _, f := range flags {
		l = append(l, req(openat, s, "", d, f))
	}
	for _, u := range []string{"a", "e", "in"} {
		l = append(l, req(renameat, s, u, d, full), req(renameat, u, s, lists, d), req(linkat, s, u, d, root, 1), req(linkat, u, s, full, d, 0))
	}
	return l
}

// requests answers each call of the chapter with all texts and with all numbers; those with two paths with few of them beside each.
func requests() []api.Req {
	var l []api.Req
	for _, s := range texts {
		for _, no := range []int{unlink, chdir, mkdir, rmdir, readlink} {
			l = append(l, req(no, s, ""))
		}
		for how := range 3 {
			l = append(l, req(stat, s, "", how))
		}
		for _, f := range flags {
			l = append(l, req(open, s, "", f))
		}
		l = slices.Concat(l, from(full, s), from(most, s))
		for _, u := range few {
			l = append(l, req(symlink, u, s), req(link, s, u), req(link, u, s), req(rename, s, u), req(rename, u, s), req(linkat, s, u, full, most, 1), req(renameat, s, u, most, full))
		}
	}
	for _, d := range fds {
		l = append(l, req(fchdir, "", "", d))
		for _, s := range few {
			l = append(l, from(d, s)...)
		}
		for _, d2 := range fds {
			l = append(l, req(renameat, "f", "a", d, d2), req(linkat, "in", "a", d, d2, 0), req(linkat, "in", "a", d, d2, 1))
		}
	}
	return l
}

// P18.1 to P18.6: each call with each kind of path, from each kind of number, by each process: what it answers, and all there is behind it.
func TestEachCallAgainstPlain(t *testing.T) {
	all := requests()
	for pid := one; pid <= nobody; pid++ {
		t.Run(fmt.Sprint(pid), func(t *testing.T) {
			t.Parallel()
			w := ready(t)
			for i, r := range all {
				if pid >= ended && i%40 != 0 { // each is refused ahead of all that it asks for
					continue
				}
				if _, changed := same(t, w, pid, r); changed {
					w = ready(t)
				}
			}
		})
	}
}

// dice answers a roller of numbers below n, always the same row of them.
func dice(seed uint64) func(n int) int {
	return func(n int) int {
		seed = seed*6364136223846793005 + 1442695040888963407
		return int(seed >> 33 % uint64(n))
	}
}

// player makes requests such as come, in a world that changes.
type player struct {
	*world.World
	dice func(n int) int
}

// one of l.
func (p *player) some(l ...int) int { return l[p.dice(len(l))] }

// text answers a path of up to four parts, through few names, so that much of it is there.
func (p *player) text() string {
	if p.dice(25) == 0 {
		return []string{"", "/", "//", "\x00", strings.Repeat("a", 33), strings.Repeat("./", 128), strings.Repeat("./", 129)}[p.dice(7)]
	}
	var parts []string
	for range 1 + p.dice(2) + p.dice(2)*p.dice(3) {
		parts = append(parts, []string{"a", "b", "c", "d", "a", "b", "c", "d", ".", ".."}[p.dice(10)])
	}
	s := strings.Join(parts, "/")
	if p.dice(8) == 0 {
		s = "/" + s
	}
	if p.dice(6) == 0 {
		s += "/"
	}
	return s
}

// flags answers flags of open, most of which can be.
func (p *player) flags() int {
	f := p.some(0, wr, both)
	if f != 0 && p.dice(4) == 0 {
		f |= trunc
	}
	for _, b := range []int{creat, creat, excl, direct, nofollow, app, nonblock} {
		if p.dice(4) == 0 {
			f |= b
		}
	}
	if p.dice(60) == 0 {
		f ^= 1 << p.dice(20)
	}
	return f
}

// dir answers a directory's number.
func (p *player) dir() int {
	return p.some(p.dice(p.Limits().Fds), p.dice(p.Limits().Fds), p.dice(p.Limits().Fds), cwd, p.dice(p.Limits().Fds+2)-1)
}

// request answers a request of this chapter.
func (p *player) request() api.Req {
	no := p.some(groups["dircalls"]...)
	if p.dice(4) == 0 {
		no = p.some(open, openat, openat, mkdir, mkdirat, symlink)
	}
	r := req(no, p.text(), "")
	n := numbers[no]
	for i := range n[0] {
		r.A[i] = p.dir()
	}
	if n[1] == 2 {
		r.T = p.text()
	}
	switch no {
	case open, openat:
		r.A[n[0]-1] = p.flags()
	case stat, fstatat, unlinkat, linkat:
		r.A[n[0]-1] = p.dice(2)
	case fchdir:
		r.S = ""
	}
	if p.dice(100) == 0 {
		r.A[p.dice(5)]++
	}
	return r
}

// held answers a request from directories' numbers, which pid mostly has.
func (p *player) held(pid int) api.Req {
	fds := append(p.Slots(pid).All(), p.dice(p.Limits().Fds))
	for {
		r := p.request()
		if !slices.Contains(notCwd, r.No) && p.dice(40) > 0 {
			continue
		}
		if r.A[0] = p.some(fds...); r.No == renameat || r.No == linkat {
			r.A[1] = p.some(fds...)
		}
		return r
	}
}

// other does something that is none of this chapter's calls.
func (p *player) other(pid int) {
	fd := p.dice(p.Limits().Fds)
	switch p.dice(12) {
	case 0, 1, 2:
		p.Close(pid, fd)
	case 3:
		p.Fork(pid, false)
	case 4:
		if p.dice(3) == 0 {
			p.End(pid, 0)
			p.Procs().Wait(1, 0)
		}
	case 5:
		if p.dice(2) == 0 {
			p.Procs().Enter(pid)
		}
	case 6:
		p.Slots(pid).Limit(fd, api.CapAll&^(1<<p.dice(32)))
	case 7:
		p.Slots(pid).Limit(fd, api.CapAll&^(1<<p.dice(20))&^(1<<p.dice(20)))
	case 8:
		p.Slots(pid).LimitIoctls(fd, []int{p.dice(9)})
	case 9:
		p.FS().Write(p.dice(p.FS().Next()), p.dice(100), []byte("y"))
	case 10:
		p.Open(pid, api.KDir, 1, 0, slots.Full(1))
	case 11:
		p.FS().Create(p.dice(p.FS().Next()), string(rune('a'+p.dice(4))), api.KBound, "")
	}
}

// P18.1 to P18.6: long rows of calls by several processes, in worlds with much room and little, with other things between them.
func TestLongRowsAgainstPlain(t *testing.T) {
	count := map[string]int{}
	for seed := range 500 {
		dice := dice(uint64(seed))
		l := api.Limits{Procs: 1 + dice(4), Fds: 1 + dice(10), Files: 1 + dice(20), Inodes: 2 + dice(14), Blocks: dice(6), Pipe: 1, Sock: 1}
		w := world.New(l)
		p := &player{w, dice}
		for range 250 {
			procs := w.Procs().Dump()
			pid := procs[dice(len(procs))].Pid
			if dice(8) == 0 && w.Slots(pid) != nil {
				p.other(pid)
				continue
			}
			r := p.request()
			x, changed := same(t, w, pid, r)
			count[fmt.Sprintf("%d %d %v", r.No, x.Err, changed)]++
		}
	}
	seen := func(no int, e api.Errno, changed bool) {
		if count[fmt.Sprintf("%d %d %v", no, e, changed)] == 0 {
			t.Errorf("no call %d was told %v, with a change: %v", no, e, changed)
		}
	}
	for _, no := range groups["dircalls"] {
		seen(no, api.ECAPMODE, false)
		if no != fchdir {
			seen(no, api.ENOENT, false)
			seen(no, api.ENAMETOOLONG, false)
		}
		seen(no, api.OK, no != readlink && no != readlinkat && no != stat && no != fstatat)
		if slices.Contains(notCwd, no) {
			seen(no, api.ENOTCAPABLE, false)
			seen(no, api.EBADF, false)
			seen(no, api.ENOTDIR, false)
		}
	}
	for _, no := range []int{open, openat} {
		for _, e := range []api.Errno{api.EMFILE, api.ENFILE, api.ENOSPC, api.EEXIST, api.EISDIR, api.ELOOP, api.EOPNOTSUPP, api.EINVAL} {
			seen(no, e, false)
		}
	}
	for no, e := range map[int]api.Errno{link: api.EPERM, linkat: api.EPERM, unlink: api.EPERM, rmdir: api.ENOTEMPTY, rename: api.ENOTEMPTY, renameat: api.EINVAL, mkdir: api.EEXIST, mkdirat: api.ENOSPC, symlink: api.EEXIST, symlinkat: api.ENOSPC, readlink: api.EINVAL} {
		seen(no, e, false)
	}
}

// P18.1, P18.6: requests of any numbers, texts and lists end, and what is handed in stays as it is.
func TestAnyRequest(t *testing.T) {
	dice := dice(7)
	some := func(l ...int) int { return l[dice(len(l))] }
	text := func() string {
		return []string{"", "", "a", "d/f", "in", "/f", "..", "e/", "\x00", "\xff\xfe", "../../../..", strings.Repeat("x", 300), strings.Repeat("/", 4097)}[dice(13)]
	}
	w := ready(t)
	for range 30000 {
		r := api.Req{No: some(append(noCalls, groups["dircalls"]...)...), S: text(), T: text()}
		if dice(2) == 0 {
			r.No = some(groups["dircalls"]...)
		}
		for i := range 1 + dice(5) {
			r.A[i] = some(0, 0, 0, 1, 1, 2, cwd, -1, free, 64, creat, wr|creat, math.MinInt, math.MaxInt, dice(1<<20), dice(16))
		}
		if dice(10) == 0 {
			r.L = []int{1, 2}
		}
		if _, changed := same(t, w, some(one, two, capable, astray, ended, nobody, 0, -1, math.MinInt, math.MaxInt), r); changed {
			w = ready(t)
		}
		if len(r.L) > 0 && (r.L[0] != 1 || r.L[1] != 2) {
			t.Fatal("the list is changed")
		}
	}
}

// reached answers all that the directories which a process holds reach.
func reached(w *world.World, pid int) map[int]bool {
	within := map[int]bool{}
	for _, fd := range w.Slots(pid).All() {
		if _, f, _ := w.Look(pid, fd, 0); f.Kind == api.KDir {
			for _, ino := range namei.Reach(w.FS(), f.Obj) {
				within[ino] = true
			}
		}
	}
	return within
}

// grows makes one more thing somewhere in the tree.
func (p *player) grows() {
	all := p.FS().Dump()
	dir := all[p.dice(len(all))].Ino
	name := string(rune('a' + p.dice(4)))
	switch p.dice(6) {
	case 0:
		ino, _ := p.FS().Create(dir, name, api.KFile, "")
		p.FS().Write(ino, 0, []byte(name))
	case 1:
		p.FS().Create(dir, name, api.KSymlink, p.text())
	case 2:
		p.FS().Link(dir, name, all[p.dice(len(all))].Ino)
	case 3:
		p.FS().Create(dir, name, api.KBound, "")
	default:
		p.FS().Create(dir, name, api.KDir, "")
	}
}

// sealed answers a world in which a process is in capability mode and has some directories of a tree such as comes.
func sealed(seed uint64) (*player, int) {
	p := &player{world.New(api.Limits{Procs: 2, Fds: 12, Files: 20, Inodes: 256, Blocks: 9, Pipe: 1, Sock: 1}), dice(seed)}
	for range 100 {
		p.grows()
	}
	all := slices.DeleteFunc(p.FS().Dump()[1:], func(x api.Inode) bool { return x.Kind != api.KDir || len(x.Names) == 0 && p.dice(3) > 0 })
	for range min(3, len(all)) {
		p.Open(1, api.KDir, all[p.dice(len(all))].Ino, 0, slots.Full(1))
	}
	p.Procs().Enter(1)
	return p, 1
}

// changed answers the inodes that are others than they were, or not there any more.
func changed(was, now api.Dump) []int {
	tells := func(x api.Inode) string { return fmt.Sprint(x.Kind, x.Links, x.Parent, x.Text, x.Names, x.Inos) }
	text := map[int]string{}
	for _, x := range now.Inodes {
		text[x.Ino] = tells(x)
	}
	var l []int
	for _, x := range was.Inodes {
		if text[x.Ino] != tells(x) {
			l = append(l, x.Ino)
		}
	}
	return l
}

// P18.7: in capability mode nothing is opened, made, taken away or changed but what held directories reach.
func TestNothingBeyond(t *testing.T) {
	opened, made, tookAway := 0, 0, 0
	for seed := range 150 {
		p, pid := sealed(uint64(seed))
		for range 150 {
			within, was, r := reached(p.World, pid), p.Dump(), p.held(pid)
			x, _ := same(t, p.World, pid, r)
			now := p.Dump()
			for _, ino := range changed(was, now) {
				if !within[ino] {
					t.Fatalf("seed %d: %v changes %d, which nothing reaches", seed, r, ino)
				}
			}
			after := reached(p.World, pid)
			for _, n := range now.Inodes {
				fresh := n.Ino >= was.Next[4]
				if after[n.Ino] && !within[n.Ino] && !fresh || fresh && !after[n.Ino] {
					t.Fatalf("seed %d: %v comes to %d, or makes it elsewhere", seed, r, n.Ino)
				}
				if fresh {
					made++
				}
			}
			if x.Err == api.OK && r.No == openat {
				_, f, _ := p.Look(pid, x.Val, 0)
				if f.Obj < was.Next[4] && !within[f.Obj] {
					t.Fatalf("seed %d: %v opens %d", seed, r, f.Obj)
				}
				opened++
				if p.dice(3) > 0 {
					p.Close(pid, x.Val)
				}
			}
			if len(now.Inodes) < len(was.Inodes) {
				tookAway++
			}
		}
	}
	if opened < 200 || made < 100 || tookAway < 50 {
		t.Errorf("just %d opened, %d made, %d taken away", opened, made, tookAway)
	}
}

// elsewhere changes what no directory of a process reaches: texts, names and what is behind them.
func elsewhere(p *player, pid int) {
	within := reached(p.World, pid)
	for _, x := range p.FS().Dump() {
		if within[x.Ino] {
			continue
		}
		for i, name := range x.Names {
			p.FS().Rename(x.Ino, name, x.Ino, "moved"+name)
			if !within[x.Inos[i]] {
				p.FS().Unlink(x.Ino, "moved"+name)
			}
		}
		if x.Kind == api.KDir {
			for _, name := range []string{"a", "b"} {
				p.FS().Create(x.Ino, name, api.KSymlink, "moveda")
			}
		}
		p.FS().Write(x.Ino, 0, []byte("other"))
	}
}

// P18.7: in capability mode nothing is told of what no held directory reaches: calls tell the same, whatever is there.
func TestNothingToldOf(t *testing.T) {
	done, refused := 0, 0
	for seed := range 150 {
		p, pid := sealed(uint64(seed))
		q, _ := sealed(uint64(seed))
		if fmt.Sprint(p.Dump()) != fmt.Sprint(q.Dump()) {
			t.Fatal("the same seed makes another world")
		}
		elsewhere(q, pid)
		for range 100 {
			r := p.held(pid)
			x, y := Call(p.World, pid, r), Call(q.World, pid, r)
			if fmt.Sprint(x) != fmt.Sprint(y) {
				t.Fatalf("seed %d: %v: %v, but %v, where something else is elsewhere", seed, r, x, y)
			}
			switch x.Err {
			case api.OK:
				done++
			case api.ENOTCAPABLE:
				refused++
			}
		}
	}
	if done < 500 || refused < 500 {
		t.Errorf("just %d calls done, and %d refused", done, refused)
	}
}

// P18.7: what a directory of the tree leads to outside is refused, and what is held beneath it goes.
func TestHeldAlone(t *testing.T) {
	w := scene(t)
	for _, fd := range w.Slots(capable).All() {
		if fd != inner {
			must(t, "close", w.Close(capable, fd))
		}
	}
	must(t, "symlink", second(w.FS().Create(4, "back", api.KSymlink, "..")))
	must(t, "symlink", second(w.FS().Create(4, "top", api.KSymlink, "/")))
	must(t, "symlink", second(w.FS().Create(4, "self", api.KSymlink, "g")))
	for _, x := range []struct{ path, want string }{
		{"g", "0 [1 0 1 0]"}, {"self", "0 [1 0 1 0]"}, {"../f", "ENOTCAPABLE"}, {"back/f", "ENOTCAPABLE"}, {"back", "ENOTCAPABLE"}, {"top", "ENOTCAPABLE"}, {"top/f", "ENOTCAPABLE"}, {"/d/e/g", "ENOTCAPABLE"}, {"../e/g", "ENOTCAPABLE"}, {"f", "ENOENT"},
	} {
		if got := outcome(w, capable, req(fstatat, x.path, "", inner, 0)); got != x.want {
			t.Errorf("%s: %s, not %s", x.path, got, x.want)
		}
	}
	for fd := range 15 {
		if got := outcome(w, capable, req(fstatat, "f", "", fd, 0)); fd != inner && got != "EBADF" {
			t.Errorf("%d: %s", fd, got)
		}
	}
}

// second answers the error of what answers a number, too.
func second(_ int, e api.Errno) api.Errno { return e }
