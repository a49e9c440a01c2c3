package capcalls

import (
	"fmt"
	"math"
	"slices"
	"strings"
	"testing"

	"purlieu/api"
	"purlieu/dircalls"
	"purlieu/rights"
	"purlieu/slots"
	"purlieu/white"
	"purlieu/world"
)

// The calls of this chapter, by their names.
const (
	enter, getmode         = 57, 58
	rightsLimit, rightsGet = 59, 60
	ioctlsLimit, ioctlsGet = 61, 62
	fcntlsLimit, fcntlsGet = 63, 64
)

// chapter are all of them.
var chapter = []int{enter, getmode, rightsLimit, rightsGet, ioctlsLimit, ioctlsGet, fcntlsLimit, fcntlsGet}

// gets are those that tell what a descriptor has.
var gets = []int{rightsGet, ioctlsGet, fcntlsGet}

// The processes of a scene.
const (
	first   = 1
	second  = 2 // a child of the first one, with the same descriptors
	capable = 3 // likewise, in capability mode
	inner   = 4 // a child of that one
	ended   = 5
	gone    = 6 // was reaped
	empty   = 7 // a child of the first one, without descriptors
)

// living and notLiving are their numbers.
var (
	living    = []int{first, second, capable, inner, empty}
	notLiving = []int{ended, gone, 0, -1, 8, math.MaxInt, math.MinInt}
)

// The descriptors of all but the last process that live. Those that are not said to be limited have all rights.
const (
	root   = iota // the root
	pipeR         // a pipe's reading end
	pipeW         // its writing end
	dir           // the directory d
	file          // the file d/f
	copied        // the same open file, of which there was a descriptor ahead of all limits
	one           // a socket that is joined to another one
	proc          // a process that ended
	few           // the open file once more, with some rights, commands 2, 5, 9 of ioctl, and two of fcntl
	bare          // the open file once more, without any right
	mute          // the open file once more, with all rights, without any command
	free          // none: the first one that is free
	beyond = free + 3
)

// held are all of them.
var held = []int{root, pipeR, pipeW, dir, file, copied, one, proc, few, bare, mute}

// fewRights and fewFcntls are what few has.
const (
	fewRights = api.CapRead | api.CapSeek | api.CapFcntl | api.CapIoctl
	fewFcntls = api.FcntlGetfl | api.FcntlSetfl
)

// some are limits such as come.
var some = api.Limits{Procs: 12, Fds: beyond, Files: 30, Inodes: 8, Blocks: 4, Pipe: 8, Sock: 8}

// must says that what the scene needs was told no error.
func must(t testing.TB, what string, e api.Errno) {
	t.Helper()
	if e != api.OK {
		t.Fatalf("%s: %v", what, e)
	}
}

// opens opens something for a process, which is to be that descriptor.
func opens(t testing.TB, w *world.World, pid, fd, kind, obj, flags int) {
	t.Helper()
	if got := w.Open(pid, kind, obj, flags, slots.Full(1)); got != fd {
		t.Fatalf("opened %d %d: %d, not %d", kind, obj, got, fd)
	}
}

// forks forks a child, which is to have that number.
func forks(t testing.TB, w *world.World, pid, child int, pd bool) {
	t.Helper()
	if got, e := w.Fork(pid, pd); got != child || e != api.OK {
		t.Fatalf("forked: %d %v, not %d", got, e, child)
	}
}

// dups lets the first process have a descriptor more of what it has, which is to be that one.
func dups(t testing.TB, w *world.World, from, fd int) {
	t.Helper()
	if got, e := w.Dup(first, from, 0); got != fd || e != api.OK {
		t.Fatalf("dup: %d %v, not %d", got, e, fd)
	}
}

// things opens all that is unlimited, for the first process.
func things(t testing.TB, w *world.World) {
	t.Helper()
	for i, x := range []struct {
		in, kind int
		name     string
	}{{1, api.KDir, "d"}, {2, api.KFile, "f"}} {
		ino, e := w.FS().Create(x.in, x.name, x.kind, "")
		if must(t, "create", e); ino != 2+i {
			t.Fatal(ino)
		}
	}
	id := w.Pipe()
	opens(t, w, first, root, api.KDir, 1, 0)
	opens(t, w, first, pipeR, api.KPipe, id, 0)
	opens(t, w, first, pipeW, api.KPipe, id, api.OWrite)
	opens(t, w, first, dir, api.KDir, 2, 0)
	opens(t, w, first, file, api.KFile, 3, api.OBoth)
	dups(t, w, file, copied)
	a, _ := w.Socks().Pair()
	opens(t, w, first, one, api.KSock, a, api.OBoth)
	opens(t, w, first, proc, api.KProc, ended, 0)
}

// limited makes the limited ones.
func limited(t testing.TB, w *world.World) {
	t.Helper()
	s := w.Slots(first)
	dups(t, w, file, few)
	must(t, "limit", s.Limit(few, fewRights))
	must(t, "limit", s.LimitIoctls(few, []int{2, 5, 9}))
	must(t, "limit", s.LimitFcntls(few, fewFcntls))
	dups(t, w, file, bare)
	must(t, "limit", s.Limit(bare, 0))
	dups(t, w, file, mute)
	must(t, "limit", s.LimitIoctls(mute, nil))
	must(t, "limit", s.LimitFcntls(mute, 0))
}

// scene answers a world with all that is listed above.
func scene(t testing.TB) *world.World {
	t.Helper()
	w := world.New(some)
	things(t, w)
	limited(t, w)
	forks(t, w, first, second, false)
	forks(t, w, first, capable, false)
	must(t, "enter", w.Procs().Enter(capable))
	forks(t, w, capable, inner, true)
	forks(t, w, first, ended, false)
	forks(t, w, first, gone, false)
	must(t, "end", w.End(ended, 55))
	must(t, "end", w.End(gone, 66))
	_, e := w.Procs().Reap(gone)
	must(t, "reap", e)
	forks(t, w, first, empty, false)
	for _, fd := range held {
		must(t, "close", w.Close(empty, fd))
	}
	return w
}

// req answers a request.
func req(no int, a ...int) api.Req {
	r := api.Req{No: no}
	copy(r.A[:], a)
	return r
}

// raw answers the raw words of rights, from the document.
func raw(a api.Rights) []int {
	return []int{1<<57 + int(a%(1<<20)), 1<<58 + int(a>>20)}
}

// limitTo answers a request to leave a descriptor just these rights.
func limitTo(fd int, a api.Rights) api.Req {
	return api.Req{No: rightsLimit, A: [5]int{fd}, L: raw(a)}
}

// ioctls answers a request to leave a descriptor just these commands of ioctl.
func ioctls(fd int, l ...int) api.Req { return api.Req{No: ioctlsLimit, A: [5]int{fd}, L: l} }

// names are the errors that are told here.
var names = map[api.Errno]string{
	api.ESRCH: "ESRCH", api.EBADF: "EBADF", api.EINVAL: "EINVAL", api.ENOSYS: "ENOSYS", api.ENOTCAPABLE: "ENOTCAPABLE",
}

// kinds are the kinds of things, by short names.
var kinds = map[int]string{api.KFile: "file", api.KDir: "dir", api.KSymlink: "link", api.KBound: "name", api.KPipe: "pipe", api.KSock: "sock", api.KProc: "proc"}

// like tells rights and whitelists, where they are not all.
func like(s api.Slot) string {
	if s.Rights == api.CapAll && s.Ioctls.All && s.Fcntls == api.FcntlAll {
		return ""
	}
	return fmt.Sprintf(";%s;%s;%d", rights.Show(s.Rights), white.Show(s.Ioctls), s.Fcntls)
}

// process tells a process: its number, its parent's, where it is, or what it ended with; whether a descriptor stands for it, and whether it is in capability mode.
func process(p api.Proc) string {
	line := fmt.Sprintf("pid%d<%d", p.Pid, p.Parent)
	if p.Lives {
		line += fmt.Sprintf("@%d", p.Cwd)
	} else {
		line += fmt.Sprintf("!%d", p.Code)
	}
	if p.Pd {
		line += "d"
	}
	if p.Cap {
		line += "c"
	}
	return line
}

// lines tells the processes and descriptors of a dump as lines.
func lines(d api.Dump) []string {
	var l []string
	for _, p := range d.Procs {
		l = append(l, process(p))
	}
	for _, h := range d.Held {
		i := slices.IndexFunc(d.Files, func(f api.File) bool { return f.ID == h.Slot.File })
		if i < 0 {
			l = append(l, fmt.Sprintf("%d.%d:nothing", h.Pid, h.Fd))
			continue
		}
		f := d.Files[i]
		l = append(l, fmt.Sprintf("%d.%d:%s%d,%d%s", h.Pid, h.Fd, kinds[f.Kind], f.Obj, f.Flags, like(h.Slot)))
	}
	return l
}

// more answers the lines of a that b has not, or less often.
func more(a, b []string) []string {
	times := map[string]int{}
	for _, line := range b {
		times[line]++
	}
	var l []string
	for _, line := range a {
		if times[line]--; times[line] < 0 {
			l = append(l, line)
		}
	}
	return l
}

// outcome does a call, and tells what came of it, and what it changed: which processes and descriptors went, and which came. Nothing else may change.
func outcome(w *world.World, pid int, r api.Req) string {
	before := w.Dump()
	x := Call(w, pid, r)
	after := w.Dump()
	l := []string{fmt.Sprint(x.Val)}
	if x.Err != api.OK {
		l[0] = names[x.Err]
	}
	if x.Err != api.OK && x.Val != 0 || x.S != "" {
		l = append(l, "and more")
	}
	if len(x.L) > 0 {
		l = append(l, fmt.Sprint(x.L))
	}
	was, now := lines(before), lines(after)
	for _, line := range more(was, now) {
		l = append(l, "-"+line)
	}
	for _, line := range more(now, was) {
		l = append(l, "+"+line)
	}
	after.Procs, after.Held = before.Procs, before.Held
	if !alike(before, after) {
		l = append(l, "and other changes")
	}
	return strings.Join(l, " ")
}

// alike tells whether all there is is the same in two dumps.
func alike(a, b api.Dump) bool {
	lists := func(a, b api.List) bool { return a.All == b.All && slices.Equal(a.L, b.L) }
	held := func(a, b api.Held) bool {
		x, y := a.Slot, b.Slot
		return a.Pid == b.Pid && a.Fd == b.Fd && x.File == y.File && x.Rights == y.Rights && x.Fcntls == y.Fcntls && lists(x.Ioctls, y.Ioctls)
	}
	inode := func(a, b api.Inode) bool {
		return a.Ino == b.Ino && a.Kind == b.Kind && a.Links == b.Links && a.Holds == b.Holds && a.Parent == b.Parent && a.Text == b.Text && a.Blocks == b.Blocks && slices.Equal(a.Names, b.Names) && slices.Equal(a.Inos, b.Inos)
	}
	passed := func(a, b api.Passed) bool {
		return a.File == b.File && a.Rights == b.Rights && a.Fcntls == b.Fcntls && lists(a.Ioctls, b.Ioctls)
	}
	part := func(a, b api.Part) bool {
		return slices.Equal(a.B, b.B) && slices.EqualFunc(a.L, b.L, passed)
	}
	socks := func(a, b api.Sock) bool {
		return a.ID == b.ID && a.State == b.State && a.Peer == b.Peer && a.Bound == b.Bound && a.Most == b.Most && a.ShutR == b.ShutR && a.ShutW == b.ShutW && slices.Equal(a.Waits, b.Waits) && slices.EqualFunc(a.Parts, b.Parts, part)
	}
	return a.Next == b.Next && slices.Equal(a.Procs, b.Procs) && slices.Equal(a.Files, b.Files) && slices.Equal(a.Pipes, b.Pipes) && fmt.Sprint(a.Parks) == fmt.Sprint(b.Parks) &&
		slices.EqualFunc(a.Held, b.Held, held) && slices.EqualFunc(a.Inodes, b.Inodes, inode) && slices.EqualFunc(a.Socks, b.Socks, socks)
}

// row is a call by a process, and what comes of it.
type row struct {
	pid  int
	r    api.Req
	want string
}

// rows does each row in a scene of its own, which is changed first.
func rows(t *testing.T, change func(w *world.World), l []row) {
	t.Helper()
	for _, x := range l {
		w := scene(t)
		change(w)
		if got := outcome(w, x.pid, x.r); got != x.want {
			t.Errorf("%d: %v:\n%s, not\n%s", x.pid, x.r, got, x.want)
		}
	}
}

// inTurn does each row in one scene, which is changed first.
func inTurn(t *testing.T, change func(w *world.World), l []row) {
	t.Helper()
	w := scene(t)
	change(w)
	for i, x := range l {
		if got := outcome(w, x.pid, x.r); got != x.want {
			t.Errorf("row %d: %d: %v:\n%s, not\n%s", i, x.pid, x.r, got, x.want)
		}
	}
}

// asIs changes nothing.
func asIs(*world.World) {}

// The document's example.
func TestExample(t *testing.T) {
	w := world.New(some)
	opens(t, w, first, 0, api.KDir, 1, 0)
	for i, x := range []row{
		{first, api.Req{No: rightsLimit, L: []int{1<<57 + 1, 1 << 58}}, "0 -1.0:dir1,0 +1.0:dir1,0;read;none;0"},
		{first, req(rightsGet, 0), "0 [144115188075855873 288230376151711744]"},
	} {
		if got := outcome(w, x.pid, x.r); got != x.want {
			t.Errorf("%d: %s, not %s", i, got, x.want)
		}
	}
}

// noCalls are numbers that no call has.
var noCalls = []int{0, -1, -2, api.AtCwd, 65, 66, 100, 256 + 57, 1<<16 + 58, 1<<32 + 60, math.MaxInt, math.MinInt}

// P22.1: what Ready tells, Call tells alone, whatever else there is.
func TestCallTellsReady(t *testing.T) {
	w := scene(t)
	try := func(pid int, r api.Req, want api.Errno) {
		t.Helper()
		if got := dircalls.Ready(w, pid, r, "capcalls"); got != want {
			t.Errorf("Ready(%d, %v): %v, not %v", pid, r, got, want)
		}
		if got := outcome(w, pid, r); got != names[want] {
			t.Errorf("Call(%d, %v): %s, not %v", pid, r, got, want)
		}
	}
	for _, pid := range slices.Concat(living, notLiving) {
		lives := slices.Contains(living, pid)
		for no := 1; no <= api.Calls; no++ {
			want := api.ENOSYS
			if slices.Contains(chapter, no) {
				want = api.EINVAL
			}
			if !lives {
				want = api.ESRCH
			}
			try(pid, req(no, 0, 0, 0, 0, 1), want) // no call has so many numbers
			if want != api.EINVAL {
				try(pid, req(no), want)
				try(pid, req(no, few), want)
				try(pid, api.Req{No: no, A: [5]int{few}, L: raw(0)}, want)
			}
		}
		for _, no := range noCalls {
			want := api.ENOSYS
			if !lives {
				want = api.ESRCH
			}
			try(pid, req(no), want)
			try(pid, req(no, few, 1), want)
		}
	}
}

// shapes are what each call is handed, by letters, from the document.
var shapes = map[int]string{enter: "", getmode: "", rightsLimit: "fR", rightsGet: "f", ioctlsLimit: "fI", ioctlsGet: "f", fcntlsLimit: "fx", fcntlsGet: "f"}

// shaped is what chapter 16 asks of requests of these calls.
func shaped(r api.Req) bool {
	shape := shapes[r.No]
	small := strings.TrimRight(shape, "RI")
	for i, n := range r.A {
		if i >= len(small) && n != 0 {
			return false
		}
	}
	switch {
	case r.S != "" || r.T != "":
		return false
	case shape == "fR":
		return len(r.L) == 2
	case shape == "fI":
		return len(r.L) <= 64
	}
	return len(r.L) == 0
}

// P22.1: requests of other shapes are EINVAL (of rights not just two words, so none, too), ahead of what their descriptors tell, and change nothing.
func TestOtherShapes(t *testing.T) {
	w := scene(t)
	for no, shape := range shapes {
		for _, fd := range []int{root, few, bare, free, -1, beyond} {
			a, list := [5]int{fd}, []int(nil)
			if shape == "" {
				a = [5]int{}
			}
			if shape == "fR" {
				list = raw(0)
			}
			l := []api.Req{{No: no, A: a, S: "x", L: list}, {No: no, A: a, T: "x", L: list}}
			for n := range 70 {
				l = append(l, api.Req{No: no, A: a, L: make([]int, n)})
			}
			for i := range 5 {
				for _, x := range []int{-1, 1, 2, 8, 1 << 32, math.MinInt, math.MaxInt} {
					r := api.Req{No: no, A: a, L: list}
					r.A[i] = x
					l = append(l, r)
				}
			}
			for _, r := range l {
				if shaped(r) {
					continue
				}
				if got := outcome(w, first, r); got != "EINVAL" {
					t.Errorf("%v: %s", r, got)
				}
			}
		}
	}
	rows(t, asIs, []row{
		{first, api.Req{No: rightsLimit, A: [5]int{free}}, "EINVAL"},
		{first, api.Req{No: rightsLimit, A: [5]int{free}, L: raw(0)[:1]}, "EINVAL"},
		{first, api.Req{No: rightsLimit, A: [5]int{free}, L: append(raw(0), 0)}, "EINVAL"},
		{first, api.Req{No: rightsLimit, A: [5]int{free}, L: raw(0)}, "EBADF"},
		{first, ioctls(free, make([]int, 64)...), "EBADF"},
		{first, ioctls(free, make([]int, 65)...), "EINVAL"},
		{first, ioctls(root, make([]int, 64)...), "0 -1.0:dir1,0 +1.0:dir1,0;all;0;120"},
		{first, api.Req{No: fcntlsLimit, A: [5]int{root, 8}, L: []int{8}}, "EINVAL"},
		{first, api.Req{No: enter, A: [5]int{1}}, "EINVAL"},
		{first, api.Req{No: getmode, A: [5]int{1}}, "EINVAL"},
	})
}

// onFds answers requests of each call on a descriptor: limits that can be, and that can't.
func onFds(fd int) []api.Req {
	l := []api.Req{ioctls(fd), ioctls(fd, 2), ioctls(fd, -1), limitTo(fd, 0), limitTo(fd, api.CapAll), {No: rightsLimit, A: [5]int{fd}, L: []int{1, 2}}}
	for _, mask := range []int{0, 1, 8, api.FcntlAll, -1, 1 << 40} {
		l = append(l, req(fcntlsLimit, fd, mask))
	}
	for _, no := range gets {
		l = append(l, req(no, fd))
	}
	return l
}

// P22.2: a number of which there is no descriptor tells EBADF, ahead of all that is wrong with a limit.
func TestNoDescriptor(t *testing.T) {
	w := scene(t)
	for _, fd := range []int{free, free + 1, beyond - 1, beyond, beyond + 1, 64, 256, 1 << 32, 1<<32 + few, -1, -99, -101, api.AtCwd, math.MaxInt, math.MinInt} {
		for _, pid := range living {
			for _, r := range onFds(fd) {
				if got := outcome(w, pid, r); got != "EBADF" {
					t.Errorf("%d: %v: %s", pid, r, got)
				}
			}
		}
	}
	for _, fd := range held {
		for _, r := range onFds(fd) {
			if got := outcome(w, empty, r); got != "EBADF" {
				t.Errorf("%v: %s", r, got)
			}
		}
	}
	w.Close(second, few)
	for _, r := range onFds(few) {
		if a, b := outcome(w, second, r), Call(w, first, r).Err; a != "EBADF" || b == api.EBADF {
			t.Errorf("%v: %s, and %v of another process", r, a, b)
		}
	}
}

// P22.1: all calls go with capability mode, and without any right; by each process that has the descriptor, of its own alone.
func TestEveryModeAndProcess(t *testing.T) {
	for _, fd := range held {
		for _, r := range onFds(fd) {
			all := outcome(scene(t), first, r)
			for _, pid := range []int{second, capable, inner} {
				want := strings.NewReplacer("-1.", fmt.Sprintf("-%d.", pid), "+1.", fmt.Sprintf("+%d.", pid)).Replace(all)
				if got := outcome(scene(t), pid, r); got != want {
					t.Errorf("%d: %v: %s, not %s", pid, r, got, want)
				}
			}
		}
	}
}

// P22.2: cap_enter and cap_getmode, again and again, ahead of a fork and behind it.
func TestEnter(t *testing.T) {
	inTurn(t, asIs, []row{
		{first, req(getmode), "0"},
		{second, req(getmode), "0"},
		{capable, req(getmode), "1"},
		{inner, req(getmode), "1"},
		{capable, req(enter), "0"}, // it is there already
		{inner, req(enter), "0"},
		{second, req(enter), "0 -pid2<1@1 +pid2<1@1c"},
		{second, req(enter), "0"},
		{second, req(getmode), "1"},
		{first, req(getmode), "0"}, // neither its parent
		{empty, req(getmode), "0"}, // nor another child
		{first, req(enter), "0 -pid1<0@1 +pid1<0@1c"},
		{first, req(getmode), "1"},
		{empty, req(getmode), "0"}, // it was forked ahead of that
		{empty, req(enter), "0 -pid7<1@1 +pid7<1@1c"},
		{empty, req(getmode), "1"},
		{ended, req(enter), "ESRCH"},
		{gone, req(getmode), "ESRCH"},
	})
	w := world.New(some)
	do := func(pid int, r api.Req, want string) {
		t.Helper()
		if got := outcome(w, pid, r); got != want {
			t.Errorf("%d: %v: %s, not %s", pid, r, got, want)
		}
	}
	forks(t, w, first, 2, false)
	do(first, req(enter), "0 -pid1<0@1 +pid1<0@1c")
	forks(t, w, first, 3, true)
	do(2, req(getmode), "0")
	do(3, req(getmode), "1")
	forks(t, w, 2, 4, false)
	do(4, req(getmode), "0")
	do(4, req(enter), "0 -pid4<2@1 +pid4<2@1c")
	do(2, req(getmode), "0")
	forks(t, w, 4, 5, false)
	do(5, req(getmode), "1")
}

// P22.2: cap_rights_limit and cap_rights_get; words of rights in all digits.
func TestRightsLimit(t *testing.T) {
	rows(t, asIs, []row{
		{first, req(rightsGet, root), "0 [144115188076904447 288230376151715839]"},
		{first, req(rightsGet, bare), "0 [144115188075855872 288230376151711744]"},
		{first, req(rightsGet, few), "0 [144115188075856389 288230376151712000]"}, // 0, 2, 9; 28
		{first, api.Req{No: rightsLimit, A: [5]int{file}, L: []int{1 << 57, 1<<58 + 1<<11}}, "0 -1.4:file3,2 +1.4:file3,2;pdkill;none;0"},
		{first, api.Req{No: rightsLimit, A: [5]int{file}, L: []int{1<<57 + 1<<19, 1 << 58}}, "0 -1.4:file3,2 +1.4:file3,2;unlink;none;0"},
		{first, api.Req{No: rightsLimit, A: [5]int{file}, L: []int{1 << 57, 1<<58 + 1}}, "0 -1.4:file3,2 +1.4:file3,2;accept;none;0"},
		{first, api.Req{No: rightsLimit, A: [5]int{file}, L: []int{1 << 57, 1<<58 + 1<<8}}, "0 -1.4:file3,2 +1.4:file3,2;ioctl;all;0"},
		{first, api.Req{No: rightsLimit, A: [5]int{file}, L: []int{1<<57 + 1<<9, 1 << 58}}, "0 -1.4:file3,2 +1.4:file3,2;fcntl;none;120"},
		{first, limitTo(file, api.CapAll), "0"},
		{first, limitTo(file, 0), "0 -1.4:file3,2 +1.4:file3,2;none;none;0"},
		{first, limitTo(few, fewRights), "0"},
		{first, limitTo(few, api.CapRead|api.CapIoctl), "0 -1.8:file3,2;read,seek,fcntl,ioctl;2,5,9;24 +1.8:file3,2;read,ioctl;2,5,9;0"},
		{first, limitTo(few, api.CapRead|api.CapFcntl), "0 -1.8:file3,2;read,seek,fcntl,ioctl;2,5,9;24 +1.8:file3,2;read,fcntl;none;24"},
		{first, limitTo(few, fewRights|api.CapWrite), "ENOTCAPABLE"},
		{first, limitTo(few, api.CapPdkill), "ENOTCAPABLE"},
		{first, limitTo(few, api.CapAll), "ENOTCAPABLE"},
		{first, limitTo(bare, 0), "0"},
		{first, limitTo(bare, api.CapRead), "ENOTCAPABLE"},
		{first, limitTo(mute, api.CapAll), "0"},
	})
	inTurn(t, asIs, []row{
		{first, limitTo(file, api.CapRead|api.CapWrite|api.CapSeek), "0 -1.4:file3,2 +1.4:file3,2;read,write,seek;none;0"},
		{first, limitTo(file, api.CapRead|api.CapWrite|api.CapSeek), "0"},
		{first, limitTo(file, api.CapRead|api.CapWrite), "0 -1.4:file3,2;read,write,seek;none;0 +1.4:file3,2;read,write;none;0"},
		{first, limitTo(file, api.CapRead|api.CapWrite|api.CapSeek), "ENOTCAPABLE"},
		{first, req(rightsGet, file), "0 [144115188075855875 288230376151711744]"},
		{first, req(rightsGet, copied), "0 [144115188076904447 288230376151715839]"}, // one that was there ahead of the limit
		{second, req(rightsGet, file), "0 [144115188076904447 288230376151715839]"},
		{first, limitTo(file, 0), "0 -1.4:file3,2;read,write;none;0 +1.4:file3,2;none;none;0"},
		{first, limitTo(file, api.CapRead), "ENOTCAPABLE"},
		{first, req(rightsGet, file), "0 [144115188075855872 288230376151711744]"},
	})
}

// P22.2: with one bit turned, words are those of other rights, if the bit is a right's, and none otherwise.
func TestWordsWithOneBitTurned(t *testing.T) {
	for _, a := range []api.Rights{0, api.CapAll, fewRights, 0x55555555, 0xaaaaaaaa} {
		for word := range 2 {
			for bit := range 64 {
				w := scene(t)
				l := raw(a)
				l[word] ^= 1 << bit
				want := "EINVAL"
				if bit < []int{20, 12}[word] {
					want = outcome(scene(t), first, limitTo(file, a^1<<(20*word+bit)))
				}
				if got := outcome(w, first, api.Req{No: rightsLimit, A: [5]int{file}, L: l}); got != want {
					t.Errorf("%x: %s, not %s", l, got, want)
				}
			}
		}
	}
}

// P22.2: words that are none, on any descriptor.
func TestWrongWords(t *testing.T) {
	w := scene(t)
	heads := []int{0, 1 << 57, 1 << 58, 1<<57 + 1<<58, 1 << 56, 1 << 59, 1 << 62, math.MinInt, math.MinInt + 1<<57, math.MinInt + 1<<58, -1 << 57, -1 << 58, -1, math.MaxInt, 1 << 32, 1<<32 - 1, -1 << 32}
	for _, fd := range held {
		for _, a := range heads {
			for _, b := range heads {
				if a == 1<<57 && b == 1<<58 {
					continue
				}
				for _, low := range []int{0, 1, 1 << 20} {
					if got := outcome(w, first, api.Req{No: rightsLimit, A: [5]int{fd}, L: []int{a | low, b}}); got != "EINVAL" {
						t.Errorf("%x %x: %s", a|low, b, got)
					}
					if got := outcome(w, first, api.Req{No: rightsLimit, A: [5]int{fd}, L: []int{a, b | low}}); got != "EINVAL" {
						t.Errorf("%x %x: %s", a, b|low, got)
					}
				}
			}
		}
		if got := outcome(w, first, req(rightsLimit, fd)); got != "EINVAL" {
			t.Errorf("no words: %s", got)
		}
	}
}

// upTo answers the numbers from a to b.
func upTo(a, b int) []int {
	var l []int
	for n := a; n <= b; n++ {
		l = append(l, n)
	}
	return l
}

// P22.2: cap_ioctls_limit and cap_ioctls_get.
func TestIoctlsLimit(t *testing.T) {
	const was = " -1.8:file3,2;read,seek,fcntl,ioctl;2,5,9;24 +1.8:file3,2;read,seek,fcntl,ioctl;"
	back := upTo(0, 63)
	slices.Reverse(back)
	twice := slices.Concat(upTo(0, 31), upTo(0, 31))
	rows(t, asIs, []row{
		{first, req(ioctlsGet, root), "-1"},
		{first, req(ioctlsGet, bare), "0"},
		{first, req(ioctlsGet, mute), "0"},
		{first, req(ioctlsGet, few), "3 [2 5 9]"},
		{first, ioctls(few, 2, 5, 9), "0"},
		{first, ioctls(few, 9, 5, 2), "0"},
		{first, ioctls(few, 9, 2, 9, 5, 5, 9), "0"},
		{first, ioctls(few, 9, 2), "0" + was + "2,9;24"},
		{first, ioctls(few, 5, 5), "0" + was + "5;24"},
		{first, ioctls(few), "0" + was + "none;24"},
		{first, ioctls(few, 2, 3), "ENOTCAPABLE"},
		{first, ioctls(few, 0), "ENOTCAPABLE"},
		{first, ioctls(few, math.MaxInt), "ENOTCAPABLE"},
		{first, ioctls(few, -1), "EINVAL"},
		{first, ioctls(few, 3, -1), "EINVAL"},
		{first, ioctls(few, math.MinInt, 3), "EINVAL"},
		{first, ioctls(few, back[:33]...), "EINVAL"}, // more than there may be, ahead of what it has not
		{first, ioctls(few, back[:32]...), "ENOTCAPABLE"},
		{first, ioctls(mute), "0"},
		{first, ioctls(mute, 2), "ENOTCAPABLE"},
		{first, ioctls(bare), "0"},
		{first, ioctls(bare, 2), "ENOTCAPABLE"},
		{first, ioctls(file, 0), "0 -1.4:file3,2 +1.4:file3,2;all;0;120"},
		{first, ioctls(file), "0 -1.4:file3,2 +1.4:file3,2;all;none;120"},
		{first, ioctls(file, 1<<40, math.MaxInt, 7), "0 -1.4:file3,2 +1.4:file3,2;all;7,1099511627776,9223372036854775807;120"},
		{first, ioctls(file, upTo(0, 32)...), "EINVAL"},
		{first, ioctls(file, back...), "EINVAL"},
		{first, ioctls(file, -1), "EINVAL"},
		{first, ioctls(file, twice...), "0 -1.4:file3,2 +1.4:file3,2;all;" + strings.Trim(strings.ReplaceAll(fmt.Sprint(upTo(0, 31)), " ", ","), "[]") + ";120"},
		{first, ioctls(file, append(twice[1:], 32)...), "EINVAL"},
	})
	inTurn(t, asIs, []row{
		{first, ioctls(pipeR, 7, 1, 7, 4), "0 -1.1:pipe1,0 +1.1:pipe1,0;all;1,4,7;120"},
		{first, req(ioctlsGet, pipeR), "3 [1 4 7]"},
		{first, ioctls(pipeR, 4, 7), "0 -1.1:pipe1,0;all;1,4,7;120 +1.1:pipe1,0;all;4,7;120"},
		{first, ioctls(pipeR, 1), "ENOTCAPABLE"},
		{first, req(ioctlsGet, pipeR), "2 [4 7]"},
		{second, req(ioctlsGet, pipeR), "-1"},
		{first, limitTo(pipeR, api.CapAll&^api.CapIoctl), "0 -1.1:pipe1,0;all;4,7;120 +1.1:pipe1,0;" + rights.Show(api.CapAll&^api.CapIoctl) + ";none;120"},
		{first, req(ioctlsGet, pipeR), "0"},
		{first, req(fcntlsGet, pipeR), "120"},
		{first, ioctls(pipeR, 4), "ENOTCAPABLE"},
		{first, ioctls(pipeR), "0"},
		{second, limitTo(pipeR, api.CapAll&^api.CapIoctl), "0 -2.1:pipe1,0 +2.1:pipe1,0;" + rights.Show(api.CapAll&^api.CapIoctl) + ";none;120"},
		{second, req(ioctlsGet, pipeR), "0"},
	})
}

// P22.2: cap_fcntls_limit and cap_fcntls_get, with each mask that can be, and many that can't.
func TestFcntlsLimit(t *testing.T) {
	for _, x := range []struct{ fd, has int }{{root, 120}, {file, 120}, {one, 120}, {proc, 120}, {few, 24}, {bare, 0}, {mute, 0}} {
		get := req(fcntlsGet, x.fd)
		for mask := -2; mask < 260; mask++ {
			w := scene(t)
			want, then := "0", mask
			switch {
			case mask&^120 != 0:
				want, then = "EINVAL", x.has
			case mask&^x.has != 0:
				want, then = "ENOTCAPABLE", x.has
			}
			got, _, _ := strings.Cut(outcome(w, first, req(fcntlsLimit, x.fd, mask)), " ")
			if now := outcome(w, first, get); got != want || now != fmt.Sprint(then) {
				t.Errorf("%d: mask %d: %s, not %s; %s, not %d", x.fd, mask, got, want, now, then)
			}
		}
		for _, mask := range []int{1 << 32, 1<<32 + 8, 1 << 62, math.MaxInt, math.MinInt, math.MinInt + 8, -8, -128, ^120} {
			if got := outcome(scene(t), first, req(fcntlsLimit, x.fd, mask)); got != "EINVAL" {
				t.Errorf("%d: mask %d: %s", x.fd, mask, got)
			}
		}
	}
	inTurn(t, asIs, []row{
		{first, req(fcntlsGet, file), "120"},
		{first, req(fcntlsLimit, file, 8|64), "0 -1.4:file3,2 +1.4:file3,2;all;all;72"},
		{first, req(fcntlsGet, file), "72"},
		{first, req(fcntlsLimit, file, 8|16), "ENOTCAPABLE"},
		{first, req(fcntlsLimit, file, 64), "0 -1.4:file3,2;all;all;72 +1.4:file3,2;all;all;64"},
		{first, req(fcntlsLimit, file, 64|1), "EINVAL"},
		{first, req(fcntlsLimit, file, 64), "0"},
		{first, req(fcntlsGet, copied), "120"},
		{second, req(fcntlsGet, file), "120"},
		{first, limitTo(file, api.CapAll&^api.CapFcntl), "0 -1.4:file3,2;all;all;64 +1.4:file3,2;" + rights.Show(api.CapAll&^api.CapFcntl) + ";all;0"},
		{first, req(fcntlsGet, file), "0"},
		{first, req(ioctlsGet, file), "-1"},
		{first, req(fcntlsLimit, file, 64), "ENOTCAPABLE"},
		{first, req(fcntlsLimit, file, 0), "0"},
	})
}

// P22.2: a duplicate of a limited descriptor, a child's, and one that was passed have just what it has; a limit of one says nothing of another.
func TestDuplicates(t *testing.T) {
	w := scene(t)
	do := func(pid int, r api.Req, want string) {
		t.Helper()
		if got := outcome(w, pid, r); got != want {
			t.Errorf("%d: %v: %s, not %s", pid, r, got, want)
		}
	}
	dups(t, w, few, free)
	do(first, req(rightsGet, free), "0 [144115188075856389 288230376151712000]")
	do(first, req(ioctlsGet, free), "3 [2 5 9]")
	do(first, req(fcntlsGet, free), "24")
	do(first, limitTo(free, api.CapAll), "ENOTCAPABLE")
	do(first, ioctls(free, 2), "0 -1.11:file3,2;read,seek,fcntl,ioctl;2,5,9;24 +1.11:file3,2;read,seek,fcntl,ioctl;2;24")
	do(first, req(fcntlsLimit, free, 0), "0 -1.11:file3,2;read,seek,fcntl,ioctl;2;24 +1.11:file3,2;read,seek,fcntl,ioctl;2;0")
	do(first, req(ioctlsGet, few), "3 [2 5 9]")
	do(first, req(fcntlsGet, few), "24")
	do(first, limitTo(few, 0), "0 -1.8:file3,2;read,seek,fcntl,ioctl;2,5,9;24 +1.8:file3,2;none;none;0")
	do(first, req(rightsGet, free), "0 [144115188075856389 288230376151712000]")
	do(first, req(ioctlsGet, free), "1 [2]")
	forks(t, w, first, 8, false)
	do(8, req(ioctlsGet, free), "1 [2]")
	do(8, ioctls(free), "0 -8.11:file3,2;read,seek,fcntl,ioctl;2;0 +8.11:file3,2;read,seek,fcntl,ioctl;none;0")
	do(first, req(ioctlsGet, free), "1 [2]")
	p, e := w.Pass(first, free)
	must(t, "pass", e)
	do(first, limitTo(free, 0), "0 -1.11:file3,2;read,seek,fcntl,ioctl;2;0 +1.11:file3,2;none;none;0")
	if fd := w.Give(empty, p); fd != 0 {
		t.Fatal(fd)
	}
	do(empty, req(rightsGet, 0), "0 [144115188075856389 288230376151712000]")
	do(empty, req(ioctlsGet, 0), "1 [2]")
	do(empty, ioctls(0, 5), "ENOTCAPABLE")
}

// P22.2, P22.3: what a get tells is new memory, and so is what a limit takes over.
func TestLists(t *testing.T) {
	w := scene(t)
	for _, no := range []int{rightsGet, ioctlsGet} {
		before := w.Dump()
		x := Call(w, first, req(no, few))
		for i := range x.L {
			x.L[i] = 7
		}
		_ = append(x.L, 7)
		if !alike(before, w.Dump()) {
			t.Errorf("%d tells what is its own", no)
		}
	}
	for _, r := range []api.Req{ioctls(root, 9, 4, 4), limitTo(root, fewRights)} {
		l := slices.Clone(r.L)
		if x := Call(w, first, r); x.Err != api.OK || !slices.Equal(l, r.L) {
			t.Errorf("%v: %v, of %v", r, x, l)
		}
		before := w.Dump()
		for i := range r.L {
			r.L[i] = 0
		}
		if !alike(before, w.Dump()) {
			t.Errorf("%v is kept", r)
		}
	}
}
