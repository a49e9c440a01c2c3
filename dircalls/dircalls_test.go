package dircalls

import (
	"fmt"
	"math"
	"slices"
	"strings"
	"testing"

	"purlieu/api"
	"purlieu/rights"
	"purlieu/slots"
	"purlieu/white"
	"purlieu/world"
)

// The calls of this chapter, by their names.
const (
	open, link, unlink, chdir, fchdir, mkdir, rmdir                             = 5, 8, 9, 10, 11, 12, 13
	symlink, readlink, rename, stat                                             = 22, 23, 24, 28
	openat, mkdirat, unlinkat, renameat, linkat, symlinkat, readlinkat, fstatat = 33, 34, 35, 36, 37, 38, 39, 40
)

// Some flags, by short names.
const (
	creat, excl, trunc, wr, both, direct, nofollow, app, nonblock = api.OCreat, api.OExcl, api.OTrunc, api.OWrite, api.OBoth, api.ODirectory, api.ONofollow, api.OAppend, api.ONonblock
)

// cwd stands for the directory that a process is in.
const cwd = api.AtCwd

// The descriptors that each process of a scene has.
const (
	root    = iota // the root, with all rights
	full           // the directory d, with all rights
	most           // d, with all rights but one that no call of this chapter needs
	lists          // d, with all rights, but not all commands
	lookup         // d, with the right lookup alone
	inner          // the directory d/e, with all rights
	aFile          // the file d/f
	aPipe          // the reading end of a pipe
	aSock          // a socket
	aProc          // the process 2
	removed        // a directory without a link, with all rights
	reads          // d, with the rights lookup and read, and not all commands
	free           // none: the first one that is free
)

// The processes of a scene.
const (
	one     = 1 // in the root
	two     = 2 // in d
	capable = 3 // in d, in capability mode
	astray  = 4 // in the directory that was removed
	ended   = 5 // does not live any more
	nobody  = 6 // is not there
)

// some are limits such as come.
var some = api.Limits{Procs: 5, Fds: 15, Files: 20, Inodes: 20, Blocks: 9, Pipe: 8, Sock: 8}

// tree is what is there in a scene: each inode has the number of its place, and behind all there is the directory that was removed.
var tree = []struct {
	dir, kind int
	name      string
	text      string
}{
	2:  {1, api.KDir, "d", ""},
	3:  {2, api.KFile, "f", "hello"},
	4:  {2, api.KDir, "e", ""},
	5:  {4, api.KFile, "g", ""},
	6:  {2, api.KSymlink, "in", "f"},
	7:  {2, api.KSymlink, "sub", "e"},
	8:  {2, api.KSymlink, "new", "none"},
	9:  {2, api.KSymlink, "up", "../f"},
	10: {2, api.KSymlink, "abs", "/f"},
	11: {2, api.KBound, "s", ""},
	12: {1, api.KFile, "f", "x"},
	13: {1, api.KSymlink, "l", "d"},
	14: {1, api.KSymlink, "o", "o"},
	15: {1, api.KDir, "gone", ""},
}

// must says that what the scene needs was told no error.
func must(t testing.TB, what string, e api.Errno) {
	t.Helper()
	if e != api.OK {
		t.Fatalf("%s: %v", what, e)
	}
}

// scene answers a world with the tree, the descriptors and the processes.
func scene(t testing.TB) *world.World { return sceneOf(t, some) }

// sceneOf is scene within these limits.
func sceneOf(t testing.TB, l api.Limits) *world.World {
	t.Helper()
	w := world.New(l)
	for ino, x := range tree[2:] {
		target := ""
		if x.kind == api.KSymlink {
			target = x.text
		}
		if got, e := w.FS().Create(x.dir, x.name, x.kind, target); got != ino+2 || e != api.OK {
			t.Fatalf("%s: %d %v", x.name, got, e)
		}
		if x.kind == api.KFile {
			must(t, "write", w.FS().Write(ino+2, 0, []byte(x.text)))
		}
	}
	for fd, x := range [][3]int{
		{api.KDir, 1}, {api.KDir, 2}, {api.KDir, 2}, {api.KDir, 2}, {api.KDir, 2}, {api.KDir, 4},
		{api.KFile, 3, both}, {api.KPipe, w.Pipe()}, {api.KSock, w.Socks().Make(), both}, {api.KProc, 2}, {api.KDir, 15}, {api.KDir, 2},
	} {
		if got := w.Open(1, x[0], x[1], x[2], slots.Full(1)); got != fd {
			t.Fatalf("opened %v: %d", x, got)
		}
	}
	t1 := w.Slots(1)
	must(t, "limit", t1.Limit(most, api.CapAll&^api.CapPdkill))
	must(t, "limit", t1.LimitIoctls(lists, []int{1, 2}))
	must(t, "limit", t1.LimitFcntls(lists, api.FcntlGetfl))
	must(t, "limit", t1.Limit(lookup, api.CapLookup))
	must(t, "limit", t1.LimitIoctls(reads, []int{7}))
	must(t, "limit", t1.LimitFcntls(reads, api.FcntlSetfl))
	must(t, "limit", t1.Limit(reads, api.CapLookup|api.CapRead|api.CapIoctl|api.CapFcntl))
	must(t, "move", w.Move(1, 2))
	for range 4 {
		_, e := w.Fork(1, false)
		must(t, "fork", e)
	}
	must(t, "move", w.Move(one, 1))
	must(t, "move", w.Move(astray, 15))
	must(t, "enter", w.Procs().Enter(capable))
	must(t, "end", w.End(ended, 0))
	must(t, "rmdir", w.FS().Rmdir(1, "gone"))
	return w
}

// req answers a request.
func req(no int, s, u string, a ...int) api.Req {
	r := api.Req{No: no, S: s, T: u}
	copy(r.A[:], a)
	return r
}

// names are the errors that are told here.
var names = map[api.Errno]string{
	api.EPERM: "EPERM", api.ENOENT: "ENOENT", api.ESRCH: "ESRCH", api.EBADF: "EBADF", api.EEXIST: "EEXIST", api.ENOTDIR: "ENOTDIR", api.EISDIR: "EISDIR",
	api.EINVAL: "EINVAL", api.ENFILE: "ENFILE", api.EMFILE: "EMFILE", api.ENOSPC: "ENOSPC", api.EMLINK: "EMLINK", api.EOPNOTSUPP: "EOPNOTSUPP", api.ELOOP: "ELOOP",
	api.ENAMETOOLONG: "ENAMETOOLONG", api.ENOTEMPTY: "ENOTEMPTY", api.ENOSYS: "ENOSYS", api.ENOTCAPABLE: "ENOTCAPABLE", api.ECAPMODE: "ECAPMODE",
}

// entry tells an inode as what a name leads to.
func entry(x api.Inode) string {
	switch x.Kind {
	case api.KDir:
		return fmt.Sprintf("#%d/", x.Ino)
	case api.KFile:
		return fmt.Sprintf("#%d=%s", x.Ino, x.Text)
	case api.KSymlink:
		return fmt.Sprintf("#%d>%s", x.Ino, x.Text)
	}
	return fmt.Sprintf("#%d@", x.Ino)
}

// below tells all entries of a directory, and below it, as paths.
func below(d api.Dump, ino int, ahead string) []string {
	var l []string
	at := func(ino int) api.Inode {
		return d.Inodes[slices.IndexFunc(d.Inodes, func(x api.Inode) bool { return x.Ino == ino })]
	}
	dir := at(ino)
	for i, name := range dir.Names {
		l = append(l, ahead+name+entry(at(dir.Inos[i])))
		if at(dir.Inos[i]).Kind == api.KDir {
			l = append(l, below(d, dir.Inos[i], ahead+name+"/")...)
		}
	}
	return l
}

// like tells a descriptor's rights and whitelists.
func like(s api.Slot) string {
	if s.Rights == api.CapAll && s.Ioctls.All && s.Fcntls == api.FcntlAll {
		return "full"
	}
	return fmt.Sprintf("%s;%s;%d", rights.Show(s.Rights), white.Show(s.Ioctls), s.Fcntls)
}

// lines tells a dump as lines: names with what they lead to, what is there without a name, descriptors, and where processes are.
func lines(d api.Dump) []string {
	l := below(d, 1, "/")
	for _, x := range d.Inodes {
		if x.Links == 0 && x.Ino != 1 {
			l = append(l, entry(x))
		}
	}
	for _, h := range d.Held {
		f := d.Files[slices.IndexFunc(d.Files, func(f api.File) bool { return f.ID == h.Slot.File })]
		kind := map[int]string{api.KFile: "file", api.KDir: "dir"}[f.Kind]
		l = append(l, fmt.Sprintf("%d.%d:%s%d,%d,%s", h.Pid, h.Fd, kind, f.Obj, f.Flags, like(h.Slot)))
	}
	for _, p := range d.Procs {
		l = append(l, fmt.Sprintf("%d@%d", p.Pid, p.Cwd))
	}
	return l
}

// outcome does a call, and tells what came of it, and what it changed: what went, and what came.
func outcome(w *world.World, pid int, r api.Req) string {
	before := w.Dump()
	x := Call(w, pid, r)
	after := w.Dump()
	if x.Err != api.OK {
		if !alike(before, after) {
			return names[x.Err] + " and a change"
		}
		if x.Val != 0 || x.S != "" || len(x.L) > 0 {
			return names[x.Err] + " and more"
		}
		return names[x.Err]
	}
	l := []string{fmt.Sprint(x.Val)}
	if x.S != "" {
		l = append(l, x.S)
	}
	if len(x.L) > 0 {
		l = append(l, fmt.Sprint(x.L))
	}
	was, now := lines(before), lines(after)
	for _, line := range was {
		if !slices.Contains(now, line) {
			l = append(l, "-"+line)
		}
	}
	for _, line := range now {
		if !slices.Contains(was, line) {
			l = append(l, "+"+line)
		}
	}
	return strings.Join(l, " ")
}

// row is a call by a process, and what comes of it in a scene.
type row struct {
	pid  int
	r    api.Req
	want string
}

// rowsOf does each row in a scene of its own.
func rowsOf(t *testing.T, rows []row) {
	t.Helper()
	for _, x := range rows {
		if got := outcome(scene(t), x.pid, x.r); got != x.want {
			t.Errorf("%d: %v: %s, not %s", x.pid, x.r, got, x.want)
		}
	}
}

// The document's example.
func TestExample(t *testing.T) {
	w := world.New(some)
	for i, x := range []struct {
		r    api.Req
		want string
	}{
		{req(mkdir, "a", ""), "0 +/a#2/"},
		{req(open, "a", "", 0), "0 +1.0:dir2,0,full"},
		{req(openat, "f", "", 0, creat|wr), "1 +/a/f#3= +1.1:file3,1,full"},
		{req(openat, "f", "", 0, 0), "2 +1.2:file3,0,full"},
	} {
		if got := outcome(w, 1, x.r); got != x.want {
			t.Errorf("%d: %s, not %s", i, got, x.want)
		}
	}
	must(t, "close", w.Close(1, 1))
	if got := outcome(w, 1, req(openat, "h", "", 0, creat|both|app)); got != "1 +/a/h#4= +1.1:file4,10,full" {
		t.Error(got)
	}
}

// P18.1: the calls of each group, from the document.
var groups = map[string][]int{
	"dircalls":  {5, 8, 9, 10, 11, 12, 13, 22, 23, 24, 28, 33, 34, 35, 36, 37, 38, 39, 40},
	"fscalls":   {3, 4, 6, 17, 18, 20, 21, 25, 26, 27, 29, 30, 31, 32},
	"ipccalls":  {19, 41, 42, 43, 44, 45, 46, 47, 48, 49, 50, 51},
	"proccalls": {1, 2, 7, 14, 15, 16, 53, 54, 55, 56},
	"capcalls":  {57, 58, 59, 60, 61, 62, 63, 64},
	"polls":     {52},
}

// never and notCwd are the calls that never go with capability mode, and those that do not with AtCwd, from the document.
var (
	never  = []int{5, 7, 8, 9, 10, 11, 12, 13, 16, 22, 23, 24, 28, 43, 46}
	notCwd = []int{33, 34, 35, 36, 37, 38, 39, 40, 44, 47}
)

// noCalls are numbers that no call has.
var noCalls = []int{0, -1, -5, -33, cwd, 65, 66, 100, 256 + 5, 1<<16 + 33, 1<<32 + 5, math.MaxInt, math.MinInt}

// good answers a request of that call that can be, from the descriptor d where it has a directory's number.
func good(no, d int) api.Req {
	r := api.Req{No: no}
	if slices.Contains(notCwd, no) {
		r.A[0] = d
	}
	if no == renameat || no == linkat {
		r.A[1] = d
	}
	if no == 59 {
		r.L = []int{0, 0}
	}
	return r
}

// wrong answers a request of that call that can't be: no call has so many numbers.
func wrong(no int) api.Req {
	r := good(no, 0)
	r.A[4] = 1
	return r
}

// P18.1: Ready tells ESRCH, then ENOSYS, then what Gate tells.
func TestReady(t *testing.T) {
	w := scene(t)
	was := fmt.Sprint(w.Dump())
	tells := func(pid int, r api.Req, group string, want api.Errno) {
		t.Helper()
		if got := Ready(w, pid, r, group); got != want {
			t.Errorf("Ready(%d, %v, %s): %v, not %v", pid, r, group, got, want)
		}
	}
	for _, group := range []string{"dircalls", "fscalls", "ipccalls", "proccalls", "capcalls", "polls", "", "Dircalls", "dircalls ", "calls"} {
		for no := 1; no <= api.Calls; no++ {
			for _, pid := range []int{ended, nobody, 0, -1, math.MaxInt, math.MinInt} {
				tells(pid, good(no, 0), group, api.ESRCH)
				tells(pid, wrong(no), group, api.ESRCH)
			}
			if !slices.Contains(groups[group], no) {
				for pid := one; pid <= astray; pid++ {
					tells(pid, good(no, 0), group, api.ENOSYS)
					tells(pid, good(no, cwd), group, api.ENOSYS)
					tells(pid, wrong(no), group, api.ENOSYS)
				}
				continue
			}
			for _, pid := range []int{one, two, astray} {
				tells(pid, good(no, 0), group, api.OK)
				tells(pid, good(no, cwd), group, api.OK)
				tells(pid, wrong(no), group, api.EINVAL)
			}
			inMode, fromCwd := api.OK, api.OK
			if slices.Contains(never, no) {
				inMode, fromCwd = api.ECAPMODE, api.ECAPMODE
			} else if slices.Contains(notCwd, no) {
				fromCwd = api.ECAPMODE
			}
			tells(capable, good(no, 0), group, inMode)
			tells(capable, good(no, cwd), group, fromCwd)
			tells(capable, wrong(no), group, api.EINVAL)
		}
		for _, no := range noCalls {
			tells(ended, api.Req{No: no}, group, api.ESRCH)
			tells(one, api.Req{No: no}, group, api.ENOSYS)
			tells(capable, api.Req{No: no}, group, api.ENOSYS)
		}
	}
	if fmt.Sprint(w.Dump()) != was {
		t.Error("Ready changes something")
	}
}

// P18.1: what Ready tells, Call tells alone, whatever else there is.
func TestCallTellsReady(t *testing.T) {
	w := scene(t)
	try := func(pid int, r api.Req) {
		t.Helper()
		want := Ready(w, pid, r, "dircalls")
		if got := outcome(w, pid, r); got != names[want] {
			t.Errorf("Call(%d, %v): %s, not %v", pid, r, got, want)
		}
	}
	for no := range api.Calls + 2 {
		for _, pid := range []int{one, two, capable, astray, ended, nobody, 0, -1} {
			try(pid, wrong(no))
			if !slices.Contains(groups["dircalls"], no) || pid >= ended || pid < one {
				try(pid, good(no, 0))
				try(pid, api.Req{No: no, S: "d"})
			}
		}
		if slices.Contains(groups["dircalls"], no) {
			try(capable, good(no, cwd))
		}
	}
	for _, no := range noCalls {
		try(one, api.Req{No: no, S: "d", T: "e"})
		try(nobody, api.Req{No: no})
	}
}

// P18.1, P18.6: requests of other shapes are EINVAL, and change nothing.
func TestOtherShapes(t *testing.T) {
	long := strings.Repeat("x", api.MaxText+1)
	rowsOf(t, []row{
		{one, req(mkdir, "a", "b"), "EINVAL"}, {one, req(mkdir, "a", "", 1), "EINVAL"}, {one, req(mkdir, "a", "", 0, 0, 1), "EINVAL"},
		{one, api.Req{No: mkdir, S: "a", L: []int{0}}, "EINVAL"}, {one, req(mkdir, long, ""), "EINVAL"}, {one, req(symlink, long, "a"), "EINVAL"},
		{one, req(rename, "f", long), "EINVAL"}, {one, req(mkdir, long[1:], ""), "ENAMETOOLONG"}, {one, req(rename, "f", long[1:]), "ENAMETOOLONG"}, {one, req(symlink, long[1:], "a"), "ENAMETOOLONG"},
		{one, req(stat, "f", "", 2), "EINVAL"}, {one, req(stat, "f", "", -1), "EINVAL"}, {one, req(fstatat, "f", "", cwd, 2), "EINVAL"}, {one, req(fstatat, "f", "", cwd, -1), "EINVAL"},
		{one, req(unlinkat, "f", "", cwd, 2), "EINVAL"}, {one, req(unlinkat, "f", "", cwd, -1), "EINVAL"}, {one, req(linkat, "f", "h", cwd, cwd, 2), "EINVAL"}, {one, req(linkat, "f", "h", cwd, cwd, -1), "EINVAL"},
		{one, req(open, "f", "", 3), "EINVAL"}, {one, req(open, "f", "", trunc), "EINVAL"}, {one, req(open, "f", "", creat|direct), "EINVAL"}, {one, req(open, "f", "", 16), "EINVAL"}, {one, req(open, "f", "", -1), "EINVAL"},
		{one, req(openat, "f", "", cwd, 3), "EINVAL"}, {one, req(openat, "f", "", cwd, trunc), "EINVAL"}, {one, req(openat, "f", "", cwd, creat|direct|wr), "EINVAL"}, {one, req(openat, "f", "", cwd, 1<<40), "EINVAL"},
		{one, req(openat, "f", "", 99, math.MinInt), "EINVAL"}, {capable, req(open, "f", "", 3), "EINVAL"}, {capable, req(open, "", ""), "ECAPMODE"},
		{one, req(fchdir, "a", "", full), "EINVAL"}, {one, req(chdir, "d", "", 1), "EINVAL"}, {one, req(readlinkat, "l", "", cwd, 1), "EINVAL"}, {one, req(renameat, "f", "g", cwd, cwd, 1), "EINVAL"},
	})
}

// P18.2, P18.4: texts that are no path.
func TestNoPaths(t *testing.T) {
	for _, x := range []struct{ s, want string }{
		{"", "ENOENT"}, {"\x00", "EINVAL"}, {"d\x00", "EINVAL"}, {"d/\x00/", "EINVAL"}, {strings.Repeat("a", 33), "ENAMETOOLONG"}, {"d/" + strings.Repeat("a", 33), "ENAMETOOLONG"},
		{strings.Repeat("a", 257), "ENAMETOOLONG"}, {strings.Repeat("/", 257), "ENAMETOOLONG"}, {strings.Repeat("./", 128) + "\x00", "ENAMETOOLONG"}, {strings.Repeat("./", 127) + "\x00", "EINVAL"},
	} {
		var rows []row
		for _, no := range []int{open, mkdir, unlink, rmdir, chdir, readlink, stat} {
			rows = append(rows, row{one, req(no, x.s, ""), x.want})
		}
		for _, no := range []int{openat, mkdirat, unlinkat, readlinkat, fstatat} {
			rows = append(rows, row{one, req(no, x.s, "", cwd), x.want}, row{two, req(no, x.s, "", root), x.want}, row{capable, req(no, x.s, "", most), x.want})
		}
		for _, no := range []int{link, rename} {
			rows = append(rows, row{one, req(no, x.s, "h"), x.want}, row{one, req(no, x.s, ""), x.want}, row{one, req(no, "f", x.s), x.want})
		}
		for _, no := range []int{linkat, renameat} {
			rows = append(rows, row{one, req(no, x.s, "h", cwd, root), x.want}, row{one, req(no, x.s, "d", full, cwd), x.want}, row{capable, req(no, "f", x.s, full, most), x.want})
		}
		rows = append(rows, row{one, req(symlink, "f", x.s), x.want}, row{one, req(symlink, "", x.s), x.want}, row{capable, req(symlinkat, "f", x.s, most), x.want})
		rowsOf(t, rows)
	}
	rowsOf(t, []row{
		{one, req(mkdir, strings.Repeat("a", 32), ""), "0 +/" + strings.Repeat("a", 32) + "#16/"},
		{one, req(mkdir, strings.Repeat("./", 127)+"ab", ""), "0 +/ab#16/"},
	})
}
