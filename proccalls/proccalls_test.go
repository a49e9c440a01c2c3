package proccalls

import (
	"fmt"
	"math"
	"slices"
	"strings"
	"testing"

	"purlieu/api"
	"purlieu/dircalls"
	"purlieu/rights"
	"purlieu/slots"
	"purlieu/white"
	"purlieu/world"
)

// The calls of this chapter, by their names.
const (
	exit, fork, wait, getpid, getppid, kill = 1, 2, 7, 14, 15, 16
	pdfork, pdgetpid, pdkill, pdwait        = 53, 54, 55, 56
)

// chapter are all of them.
var chapter = []int{exit, fork, wait, getpid, getppid, kill, pdfork, pdgetpid, pdkill, pdwait}

// The processes of a scene: 1 is the parent of all that are not said to be another's.
const (
	first   = 1
	second  = 2  // a descriptor of the first one stands for it; it is in the directory d
	capable = 3  // in capability mode
	ended   = 4  // ended with 44
	young   = 5  // a child of the second one
	dead    = 6  // another one, which ended with 66
	orphan  = 7  // its parent ended
	lost    = 8  // a descriptor of the first one stands for it; it ended with 88
	parked  = 9  // a child of the one in capability mode, which has a descriptor of it; it waits for what comes through the pipe
	gone    = 10 // a descriptor of the first one stands for it; it was reaped
	nobody  = 11 // is not there
)

// living and notLiving are their numbers.
var (
	living    = []int{first, second, capable, young, orphan, parked}
	notLiving = []int{ended, dead, lost, gone, nobody, 0, -1, math.MaxInt, math.MinInt}
)

// The descriptors of the first process, with all rights. Each other one that lives has those of the root and the pipe; capable has toParked besides.
const (
	root     = iota // the root
	pipeR           // a pipe's reading end
	pipeW           // its writing end
	dir             // the directory d
	file            // the file d/f
	one             // a socket that is joined to the next one
	two             // in it waits a byte, with which dir was passed
	toSecond        // the process 2
	toLost          // the process 8
	toGone          // the process 10
	toFirst         // the process 1, which no call of this chapter opens
	toNever         // a process that never was
	free            // none: the first one that is free
	toParked = dir  // the process 9
	beyond   = free + 4
)

// notProcs are the descriptors of what is no process.
var notProcs = []int{root, pipeR, pipeW, dir, file, one, two}

// some are limits such as come: three processes more can be made in a scene.
var some = api.Limits{Procs: 12, Fds: beyond, Files: 30, Inodes: 8, Blocks: 4, Pipe: 8, Sock: 8}

// must says that what the scene needs was told no error.
func must(t testing.TB, what string, e api.Errno) {
	t.Helper()
	if e != api.OK {
		t.Fatalf("%s: %v", what, e)
	}
}

// opens opens something for a process, which is to be that descriptor.
func opens(t testing.TB, w *world.World, pid, fd, kind, obj, flags int) {
	t.Helper()
	if got := w.Open(pid, kind, obj, flags, slots.Full(1)); got != fd {
		t.Fatalf("opened %d %d: %d, not %d", kind, obj, got, fd)
	}
}

// forks forks a child, which is to have that number.
func forks(t testing.TB, w *world.World, pid, child int, pd bool) {
	t.Helper()
	if got, e := w.Fork(pid, pd); got != child || e != api.OK {
		t.Fatalf("forked: %d %v, not %d", got, e, child)
	}
}

// dups lets a process have a descriptor of another one, at the least number that is free.
func dups(t testing.TB, w *world.World, pid, fd, to int) int {
	t.Helper()
	p, e := w.Pass(pid, fd)
	must(t, "pass", e)
	return w.Give(to, p)
}

// family makes the processes.
func family(t testing.TB, w *world.World) {
	t.Helper()
	forks(t, w, first, second, true)
	must(t, "move", w.Move(second, 2))
	forks(t, w, first, capable, false)
	must(t, "enter", w.Procs().Enter(capable))
	forks(t, w, first, ended, false)
	forks(t, w, second, young, false)
	forks(t, w, second, dead, false)
	forks(t, w, ended, orphan, false)
	forks(t, w, first, lost, true)
	forks(t, w, capable, parked, true)
	forks(t, w, first, gone, true)
	for pid, code := range map[int]int{ended: 44, dead: 66, lost: 88, gone: 10} {
		must(t, "end", w.End(pid, code))
	}
	_, e := w.Procs().Reap(gone)
	must(t, "reap", e)
	w.Park(parked, api.Req{No: 3, A: [5]int{pipeR, 1}})
}

// scene answers a world with all that is listed above.
func scene(t testing.TB) *world.World {
	t.Helper()
	w := world.New(some)
	opens(t, w, first, root, api.KDir, 1, 0)
	id := w.Pipe()
	opens(t, w, first, pipeR, api.KPipe, id, 0)
	opens(t, w, first, pipeW, api.KPipe, id, api.OWrite)
	for i, x := range []struct {
		in, kind int
		name     string
	}{{1, api.KDir, "d"}, {2, api.KFile, "f"}} {
		ino, e := w.FS().Create(x.in, x.name, x.kind, "")
		if must(t, "create", e); ino != 2+i {
			t.Fatal(ino)
		}
	}
	family(t, w)
	opens(t, w, capable, toParked, api.KProc, parked, 0)
	opens(t, w, first, dir, api.KDir, 2, 0)
	opens(t, w, first, file, api.KFile, 3, api.OBoth)
	a, b := w.Socks().Pair()
	opens(t, w, first, one, api.KSock, a, api.OBoth)
	opens(t, w, first, two, api.KSock, b, api.OBoth)
	p, e := w.Pass(first, dir)
	must(t, "pass", e)
	_, e = w.Socks().Send(a, []byte("x"), []api.Passed{p})
	must(t, "send", e)
	for i, pid := range []int{second, lost, gone, first, 99} {
		opens(t, w, first, toSecond+i, api.KProc, pid, 0)
	}
	return w
}

// req answers a request.
func req(no int, a ...int) api.Req {
	r := api.Req{No: no}
	copy(r.A[:], a)
	return r
}

// names are the errors that are told here.
var names = map[api.Errno]string{
	api.EPERM: "EPERM", api.ESRCH: "ESRCH", api.EBADF: "EBADF", api.ECHILD: "ECHILD", api.EINVAL: "EINVAL", api.ENFILE: "ENFILE", api.EMFILE: "EMFILE", api.EAGAIN: "EAGAIN",
	api.ENOSYS: "ENOSYS", api.ENOTCAPABLE: "ENOTCAPABLE", api.ECAPMODE: "ECAPMODE", api.EWAIT: "EWAIT",
}

// kinds are the kinds of things, by short names.
var kinds = map[int]string{api.KFile: "file", api.KDir: "dir", api.KSymlink: "link", api.KBound: "name", api.KPipe: "pipe", api.KSock: "sock", api.KProc: "proc"}

// like tells rights and whitelists, where they are not all.
func like(s api.Slot) string {
	if s.Rights == api.CapAll && s.Ioctls.All && s.Fcntls == api.FcntlAll {
		return ""
	}
	return fmt.Sprintf(";%s;%s;%d", rights.Show(s.Rights), white.Show(s.Ioctls), s.Fcntls)
}

// process tells a process: its number, its parent's, where it is, or what it ended with; whether a descriptor stands for it, and whether it is in capability mode.
func process(p api.Proc) string {
	line := fmt.Sprintf("pid%d<%d", p.Pid, p.Parent)
	if p.Lives {
		line += fmt.Sprintf("@%d", p.Cwd)
	} else {
		line += fmt.Sprintf("!%d", p.Code)
	}
	if p.Pd {
		line += "d"
	}
	if p.Cap {
		line += "c"
	}
	return line
}

// lines tells a dump as lines: processes, those that wait, descriptors, open files (kind, number, flags, how many name them), pipes, sockets, inodes.
func lines(d api.Dump) []string {
	var l []string
	for _, p := range d.Procs {
		l = append(l, process(p))
	}
	for _, p := range d.Parks {
		l = append(l, fmt.Sprintf("park%d:%d", p.Pid, p.Req.No))
	}
	for _, h := range d.Held {
		i := slices.IndexFunc(d.Files, func(f api.File) bool { return f.ID == h.Slot.File })
		if i < 0 {
			l = append(l, fmt.Sprintf("%d.%d:nothing", h.Pid, h.Fd))
			continue
		}
		f := d.Files[i]
		l = append(l, fmt.Sprintf("%d.%d:%s%d,%d%s", h.Pid, h.Fd, kinds[f.Kind], f.Obj, f.Flags, like(h.Slot)))
	}
	for _, f := range d.Files {
		l = append(l, fmt.Sprintf("%s%d,%dx%d", kinds[f.Kind], f.Obj, f.Flags, f.Refs))
	}
	for _, p := range d.Pipes {
		l = append(l, fmt.Sprintf("p%d,%t,%t=%s", p.ID, p.Reads, p.Writes, p.B))
	}
	for _, s := range d.Socks {
		line := fmt.Sprintf("s%d-%d", s.ID, s.Peer)
		for _, p := range s.Parts {
			line += fmt.Sprintf("=%s+%d", p.B, len(p.L))
		}
		l = append(l, line)
	}
	for _, x := range d.Inodes {
		l = append(l, fmt.Sprintf("i%d:%d,%d", x.Ino, x.Links, x.Holds))
	}
	return l
}

// more answers the lines of a that b has not, or less often.
func more(a, b []string) []string {
	times := map[string]int{}
	for _, line := range b {
		times[line]++
	}
	var l []string
	for _, line := range a {
		if times[line]--; times[line] < 0 {
			l = append(l, line)
		}
	}
	return l
}

// outcome does a call, and tells what came of it, and what it changed: what went, and what came.
func outcome(w *world.World, pid int, r api.Req) string {
	before := w.Dump()
	x := Call(w, pid, r)
	after := w.Dump()
	if x.Err != api.OK {
		if !alike(before, after) {
			return names[x.Err] + " and a change"
		}
		if x.Val != 0 || x.S != "" || len(x.L) > 0 {
			return names[x.Err] + " and more"
		}
		return names[x.Err]
	}
	l := []string{fmt.Sprint(x.Val)}
	if x.S != "" {
		l = append(l, x.S)
	}
	if len(x.L) > 0 {
		l = append(l, fmt.Sprint(x.L))
	}
	was, now := lines(before), lines(after)
	for _, line := range more(was, now) {
		l = append(l, "-"+line)
	}
	for _, line := range more(now, was) {
		l = append(l, "+"+line)
	}
	return strings.Join(l, " ")
}

// alike tells whether all there is is the same in two dumps.
func alike(a, b api.Dump) bool {
	lists := func(a, b api.List) bool { return a.All == b.All && slices.Equal(a.L, b.L) }
	held := func(a, b api.Held) bool {
		x, y := a.Slot, b.Slot
		return a.Pid == b.Pid && a.Fd == b.Fd && x.File == y.File && x.Rights == y.Rights && x.Fcntls == y.Fcntls && lists(x.Ioctls, y.Ioctls)
	}
	inode := func(a, b api.Inode) bool {
		return a.Ino == b.Ino && a.Kind == b.Kind && a.Links == b.Links && a.Holds == b.Holds && a.Parent == b.Parent && a.Text == b.Text && a.Blocks == b.Blocks && slices.Equal(a.Names, b.Names) && slices.Equal(a.Inos, b.Inos)
	}
	passed := func(a, b api.Passed) bool {
		return a.File == b.File && a.Rights == b.Rights && a.Fcntls == b.Fcntls && lists(a.Ioctls, b.Ioctls)
	}
	part := func(a, b api.Part) bool {
		return slices.Equal(a.B, b.B) && slices.EqualFunc(a.L, b.L, passed)
	}
	socks := func(a, b api.Sock) bool {
		return a.ID == b.ID && a.State == b.State && a.Peer == b.Peer && a.Bound == b.Bound && a.Most == b.Most && a.ShutR == b.ShutR && a.ShutW == b.ShutW && slices.Equal(a.Waits, b.Waits) && slices.EqualFunc(a.Parts, b.Parts, part)
	}
	return a.Next == b.Next && slices.Equal(a.Procs, b.Procs) && slices.Equal(a.Files, b.Files) && slices.Equal(a.Pipes, b.Pipes) && fmt.Sprint(a.Parks) == fmt.Sprint(b.Parks) &&
		slices.EqualFunc(a.Held, b.Held, held) && slices.EqualFunc(a.Inodes, b.Inodes, inode) && slices.EqualFunc(a.Socks, b.Socks, socks)
}

// row is a call by a process, and what comes of it.
type row struct {
	pid  int
	r    api.Req
	want string
}

// rows does each row in a scene of its own, which is changed first.
func rows(t *testing.T, change func(w *world.World), l []row) {
	t.Helper()
	for _, x := range l {
		w := scene(t)
		change(w)
		if got := outcome(w, x.pid, x.r); got != x.want {
			t.Errorf("%d: %v:\n%s, not\n%s", x.pid, x.r, got, x.want)
		}
	}
}

// inTurn does each row in one scene, which is changed first.
func inTurn(t *testing.T, change func(w *world.World), l []row) {
	t.Helper()
	w := scene(t)
	change(w)
	for i, x := range l {
		if got := outcome(w, x.pid, x.r); got != x.want {
			t.Errorf("row %d: %d: %v:\n%s, not\n%s", i, x.pid, x.r, got, x.want)
		}
	}
}

// asIs changes nothing.
func asIs(*world.World) {}

// spare leaves a process so many free descriptors, and so many open files that there is room for.
func spare(t testing.TB, w *world.World, pid, fds, files int) {
	t.Helper()
	for w.Slots(pid).Room() > fds {
		if _, e := w.Dup(pid, root, 0); e != api.OK {
			t.Fatal(e)
		}
	}
	for w.Files().Room() > files {
		if _, e := w.Files().Open(api.KProc, 99, 0); e != api.OK {
			t.Fatal(e)
		}
	}
}

// crowd lets there be room for just so many processes more.
func crowd(t testing.TB, w *world.World, room int) {
	t.Helper()
	for w.Procs().Room() > room {
		if _, e := w.Fork(first, false); e != api.OK {
			t.Fatal(e)
		}
	}
}

// The document's example.
func TestExample(t *testing.T) {
	w := world.New(some)
	for i, x := range []row{
		{first, req(pdfork), "0 -i1:0,2 +pid2<1@1d +1.0:proc2,0 +proc2,0x1 +i1:0,3"},
		{first, req(pdkill, 0, 9), "0 -pid2<1@1d -i1:0,3 +pid2<1!137d +i1:0,2"},
		{first, req(pdwait, 0), "1 [137] -pid2<1!137d"},
	} {
		if got := outcome(w, x.pid, x.r); got != x.want {
			t.Errorf("%d: %s, not %s", i, got, x.want)
		}
	}
}

// noCalls are numbers that no call has.
var noCalls = []int{0, -1, -2, api.AtCwd, 65, 66, 100, 256 + 2, 1<<16 + 14, 1<<32 + 53, math.MaxInt, math.MinInt}

// P21.1: what Ready tells, Call tells alone, whatever else there is.
func TestCallTellsReady(t *testing.T) {
	w := scene(t)
	try := func(pid int, r api.Req, want api.Errno) {
		t.Helper()
		if got := dircalls.Ready(w, pid, r, "proccalls"); got != want {
			t.Errorf("Ready(%d, %v): %v, not %v", pid, r, got, want)
		}
		if got := outcome(w, pid, r); got != names[want] {
			t.Errorf("Call(%d, %v): %s, not %v", pid, r, got, want)
		}
	}
	for _, pid := range slices.Concat(living, notLiving) {
		lives := slices.Contains(living, pid)
		for no := 1; no <= api.Calls; no++ {
			want := api.ENOSYS
			if slices.Contains(chapter, no) {
				want = api.EINVAL
			}
			if !lives {
				want = api.ESRCH
			}
			try(pid, req(no, 0, 0, 0, 0, 1), want) // no call has so many numbers
			if want != api.EINVAL {
				try(pid, req(no), want)
				try(pid, req(no, toSecond), want)
			}
		}
		for _, no := range noCalls {
			want := api.ENOSYS
			if !lives {
				want = api.ESRCH
			}
			try(pid, req(no), want)
			try(pid, req(no, toSecond, 1), want)
		}
	}
}

// shapes are what each call is handed, by letters, from the document.
var shapes = map[int]string{exit: "e", fork: "", wait: "xu", getpid: "", getppid: "", kill: "xs", pdfork: "", pdgetpid: "f", pdkill: "fs", pdwait: "fu"}

// takes tells whether a number may stand for a letter, as chapter 16 says.
func takes(c byte, n int) bool {
	switch c {
	case 'e':
		return n >= 0 && n <= 255
	case 's':
		return n >= 0 && n <= 31
	case 'u':
		return n == 0 || n == 1
	}
	return true
}

// shaped is what chapter 16 asks of requests of these calls.
func shaped(r api.Req) bool {
	small := shapes[r.No]
	for i, n := range r.A {
		if i >= len(small) && n != 0 || i < len(small) && !takes(small[i], n) {
			return false
		}
	}
	return r.S == "" && r.T == "" && len(r.L) == 0
}

// P21.1: requests of other shapes are EINVAL, ahead of what their descriptors tell, and change nothing.
func TestOtherShapes(t *testing.T) {
	w := scene(t)
	for no, small := range shapes {
		for _, n := range []int{toSecond, toGone, file, free, -1, 0, second} {
			a := [5]int{n}
			if small == "" {
				a = [5]int{}
			}
			l := []api.Req{{No: no, A: a, S: "x"}, {No: no, A: a, T: "x"}, {No: no, A: a, L: []int{0}}}
			for i := range 5 {
				for _, x := range []int{-1, 1, 2, 3, 31, 32, 255, 256, 1 << 32, math.MinInt, math.MaxInt} {
					r := api.Req{No: no, A: a}
					if r.A[i] = x; i >= len(small) || !takes(small[i], x) {
						l = append(l, r)
					}
				}
			}
			for _, r := range l {
				if got := outcome(w, first, r); got != "EINVAL" {
					t.Errorf("%v: %s", r, got)
				}
			}
		}
	}
}

// onProcs answers requests of each call on a process's descriptor.
func onProcs(fd int) []api.Req {
	return []api.Req{req(pdgetpid, fd), req(pdkill, fd), req(pdkill, fd, 9), req(pdwait, fd), req(pdwait, fd, 1)}
}

// P21.1: a number of which there is no descriptor tells EBADF, whatever the call.
func TestNoDescriptor(t *testing.T) {
	w := scene(t)
	for _, fd := range []int{free, free + 1, beyond - 1, beyond, beyond + 1, 64, 256, 1 << 32, 1<<32 + toSecond, -1, -99, -101, api.AtCwd, math.MaxInt, math.MinInt} {
		for _, pid := range living {
			for _, r := range onProcs(fd) {
				if got := outcome(w, pid, r); got != "EBADF" {
					t.Errorf("%d: %v: %s", pid, r, got)
				}
			}
		}
	}
	rows(t, asIs, []row{
		{second, req(pdgetpid, toSecond), "EBADF"},
		{second, req(pdgetpid, toParked), "EBADF"},
		{capable, req(pdgetpid, toParked), "9"},
		{first, req(pdgetpid, toParked), "EINVAL"},
	})
}

// P21.1: what is open of no process tells EINVAL, whatever the call.
func TestNotProc(t *testing.T) {
	w := scene(t)
	for _, fd := range notProcs {
		for _, r := range onProcs(fd) {
			if got := outcome(w, first, r); got != "EINVAL" {
				t.Errorf("%v: %s", r, got)
			}
		}
	}
	for _, fd := range []int{root, pipeR, pipeW} {
		for _, r := range onProcs(fd) {
			if got := outcome(w, capable, r); got != "EINVAL" {
				t.Errorf("%v: %s", r, got)
			}
		}
	}
}

// needs are the rights that calls need of a process's descriptor, from the document.
var needs = map[int]api.Rights{pdgetpid: api.CapPdgetpid, pdkill: api.CapPdkill, pdwait: api.CapPdwait}

// sets are rights to try, where these are needed.
func sets(need api.Rights) []api.Rights {
	l := []api.Rights{0, need, api.CapAll &^ need}
	for i := range 32 {
		l = append(l, api.CapAll&^(1<<i), 1<<i)
	}
	return l
}

// P21.1: a descriptor that has not all rights that its call needs tells so, ahead of all else, whatever it is open of; with just those the call goes.
func TestRights(t *testing.T) {
	for _, fd := range []int{toSecond, toLost, toGone, toFirst, toNever, root, pipeW, file, one} {
		for _, r := range onProcs(fd) {
			all := outcome(scene(t), first, r)
			bare := func(s string) string { return strings.Split(s, " ")[0] }
			for _, has := range sets(needs[r.No]) {
				want := bare(all)
				if needs[r.No]&^has != 0 {
					want = "ENOTCAPABLE"
				}
				w := scene(t)
				must(t, "limit", w.Slots(first).Limit(fd, has))
				if got := bare(outcome(w, first, r)); got != want {
					t.Errorf("%v with %s: %s, not %s", r, rights.Show(has), got, want)
				}
			}
		}
	}
}

// P21.1: the calls on numbers look at no descriptor.
func TestNoRightsNeeded(t *testing.T) {
	limit := func(w *world.World) {
		for _, pid := range living {
			for _, fd := range w.Slots(pid).All() {
				must(t, "limit", w.Slots(pid).Limit(fd, 0))
			}
		}
	}
	for _, r := range []api.Req{req(fork), req(pdfork), req(getpid), req(getppid), req(wait, -1), req(kill, second, 9), req(kill, orphan)} {
		w, v := scene(t), scene(t)
		limit(w)
		a, b := Call(w, first, r), Call(v, first, r)
		if a.Err != api.OK || fmt.Sprint(a) != fmt.Sprint(b) {
			t.Errorf("%v: %v, with rights %v", r, a, b)
		}
	}
}

// P21.1: in capability mode nothing is done to a process by its number, and by no wait; all else goes as without.
func TestCapabilityMode(t *testing.T) {
	for _, pid := range []int{capable, parked} {
		w := scene(t)
		for _, n := range slices.Concat(living, notLiving) {
			for _, r := range []api.Req{req(kill, n), req(kill, n, 9), req(wait, n), req(wait, n, 1), req(wait, -1), req(wait, -2, 1)} {
				if got := outcome(w, pid, r); got != "ECAPMODE" {
					t.Errorf("%d: %v: %s", pid, r, got)
				}
			}
		}
	}
	for fd := -1; fd <= free; fd++ {
		for _, r := range slices.Concat(onProcs(fd), []api.Req{req(fork), req(pdfork), req(getpid), req(getppid), req(exit, 7)}) {
			w, v := scene(t), scene(t)
			for i := range free {
				dups(t, w, first, i, young)
				dups(t, v, first, i, young)
			}
			must(t, "enter", v.Procs().Enter(young))
			a, b := Call(w, young, r), Call(v, young, r)
			if fmt.Sprint(a) != fmt.Sprint(b) {
				t.Errorf("%v: %v, in capability mode %v", r, a, b)
			}
		}
	}
}
