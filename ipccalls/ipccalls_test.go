package ipccalls

import (
	"fmt"
	"math"
	"slices"
	"strings"
	"testing"

	"purlieu/api"
	"purlieu/dircalls"
	"purlieu/rights"
	"purlieu/slots"
	"purlieu/white"
	"purlieu/world"
)

// The calls of this chapter, by their names.
const (
	pipe, socket, socketpair, bind, bindat, listen = 19, 41, 42, 43, 44, 45
	connect, connectat, accept, shutdown           = 46, 47, 48, 49
	send, recv                                     = 50, 51
)

// chapter are all of them.
var chapter = []int{pipe, socket, socketpair, bind, bindat, listen, connect, connectat, accept, shutdown, send, recv}

// Some flags and numbers, by short names.
const (
	wr, both, nonblock, cwd = api.OWrite, api.OBoth, api.ONonblock, api.AtCwd
)

// The descriptors that each process of a scene has, with all rights.
const (
	root    = iota // the root
	dir            // the directory d
	gone           // a directory without a link
	file           // the file d/f
	pipeR          // a pipe's reading end
	pipeW          // its writing end
	fresh          // a socket that is fresh
	freshN         // a fresh one, whose open file has ONonblock
	bound          // one that is bound to d/b
	door           // one that listens at d/s: two may wait there, none does
	doorN          // one that listens at d/n: one may wait, none does; its open file has ONonblock
	busy           // one that listens at d/w: two may wait there, and two do; the first one's other end is gone
	waiting        // the second one's other end
	one            // one that is joined to the next one; nothing waits in both
	two            //
	sent           // one with three bytes, with which two descriptors were passed, and two bytes more, with which one was
	full           // its other end, with as many bytes as there is room for
	left           // one with two bytes, with which one was passed, whose other end is gone
	alone          // one without bytes, whose other end is gone
	shutR          // one that was shut for reading
	talks          // its other end
	shutW          // one that was shut for writing
	hears          // its other end
	oneN           // one that is joined to the next one; the open files of both have ONonblock
	twoN           //
	proc           // the process 2
	free           // none: the first one that is free
	most    = free + 5
	beyond  = most + 1
)

// notSocks are the descriptors of what is no socket.
var notSocks = []int{root, dir, gone, file, pipeR, pipeW, proc}

// The processes of a scene.
const (
	first   = 1
	second  = 2 // in the directory d
	capable = 3 // in capability mode
	ended   = 4 // does not live any more
	nobody  = 5 // is not there
)

// some are limits such as come: two inodes more can be made in a scene.
var some = api.Limits{Procs: 5, Fds: beyond, Files: 40, Inodes: 19, Blocks: 4, Pipe: 8, Sock: 8}

// must says that what the scene needs was told no error.
func must(t testing.TB, what string, e api.Errno) {
	t.Helper()
	if e != api.OK {
		t.Fatalf("%s: %v", what, e)
	}
}

// opens opens a file of the first process, which is to be that descriptor.
func opens(t testing.TB, w *world.World, fd, kind, obj, flags int) {
	t.Helper()
	if got := w.Open(first, kind, obj, flags, slots.Full(1)); got != fd {
		t.Fatalf("opened %d %d: %d, not %d", kind, obj, got, fd)
	}
}

// stores makes what is in the file system, and opens some of it.
func stores(t testing.TB, w *world.World) {
	t.Helper()
	fs := w.FS()
	for _, x := range []struct {
		ino, dir  int
		name      string
		kind      int
		target    string
		open, way int
	}{
		{2, 1, "d", api.KDir, "", dir, 0},
		{3, 1, "gone", api.KDir, "", gone, 0},
		{4, 2, "f", api.KFile, "", file, both},
		{5, 2, "b", api.KBound, "", 0, 0},
		{6, 2, "s", api.KBound, "", 0, 0},
		{7, 2, "n", api.KBound, "", 0, 0},
		{8, 2, "w", api.KBound, "", 0, 0},
		{9, 2, "lost", api.KBound, "", 0, 0}, // the name of no socket
		{10, 2, "in", api.KSymlink, "s", 0, 0},
		{11, 2, "up", api.KSymlink, "../d/s", 0, 0},
		{12, 2, "abs", api.KSymlink, "/d/s", 0, 0},
		{13, 2, "new", api.KSymlink, "nothing", 0, 0},
		{14, 2, "loop", api.KSymlink, "loop", 0, 0},
		{15, 2, "e", api.KDir, "", 0, 0},
		{16, 2, "dot", api.KSymlink, "e", 0, 0},
		{17, 15, "back", api.KSymlink, "../s", 0, 0},
	} {
		if ino, e := fs.Create(x.dir, x.name, x.kind, x.target); ino != x.ino || e != api.OK {
			t.Fatalf("%s: %d %v", x.name, ino, e)
		}
		if x.open != 0 {
			opens(t, w, x.open, x.kind, x.ino, x.way)
		}
	}
	must(t, "rmdir", fs.Rmdir(1, "gone"))
}

// passes answers descriptors of the first process as they are passed.
func passes(t testing.TB, w *world.World, fds ...int) []api.Passed {
	t.Helper()
	var l []api.Passed
	for _, fd := range fds {
		p, e := w.Pass(first, fd)
		must(t, "pass", e)
		l = append(l, p)
	}
	return l
}

// limited puts file a second time, at that number, with less rights and whitelists.
func limited(t testing.TB, w *world.World, fd int) {
	t.Helper()
	if got, e := w.Dup(first, file, fd); got != fd || e != api.OK {
		t.Fatal(got, e)
	}
	s := w.Slots(first)
	must(t, "limit", s.Limit(fd, api.CapRead|api.CapStat|api.CapIoctl|api.CapFcntl))
	must(t, "limit", s.LimitIoctls(fd, []int{1, 7}))
	must(t, "limit", s.LimitFcntls(fd, api.FcntlGetfl))
}

// doors makes sockets that are fresh, bound, and listen.
func doors(t testing.TB, w *world.World) {
	t.Helper()
	s := w.Socks()
	for _, x := range []struct{ fd, flags, ino, most int }{{fresh, 0, 0, 0}, {freshN, nonblock, 0, 0}, {bound, 0, 5, -1}, {door, 0, 6, 2}, {doorN, nonblock, 7, 1}, {busy, 0, 8, 2}} {
		id := s.Make()
		opens(t, w, x.fd, api.KSock, id, both|x.flags)
		if x.ino > 0 {
			must(t, "bind", s.Bind(id, x.ino))
		}
		if x.most > 0 {
			must(t, "listen", s.Listen(id, x.most))
		}
	}
	goes := s.Make()
	must(t, "connect", s.Connect(goes, s.Find(8)))
	s.Close(goes)
	opens(t, w, waiting, api.KSock, s.Make(), both)
	_, f, _ := w.Look(first, waiting, 0)
	must(t, "connect", s.Connect(f.Obj, s.Find(8)))
}

// pairs makes sockets that are joined.
func pairs(t testing.TB, w *world.World) {
	t.Helper()
	s := w.Socks()
	pair := func(fd, flags int) (int, int) {
		a, b := s.Pair()
		opens(t, w, fd, api.KSock, a, both|flags)
		opens(t, w, fd+1, api.KSock, b, both|flags)
		return a, b
	}
	sends := func(id int, b string, l []api.Passed) {
		if n, e := s.Send(id, []byte(b), l); n != len(b) || e != api.OK {
			t.Fatalf("sent %s: %d %v", b, n, e)
		}
	}
	pair(one, 0)
	a, b := pair(sent, 0)
	limited(t, w, free)
	sends(b, "abc", passes(t, w, free, pipeW))
	must(t, "close", w.Close(first, free))
	sends(b, "de", passes(t, w, dir))
	sends(a, "12345678", nil)
	_, b = pair(left, 0)
	sends(b, "xy", passes(t, w, proc))
	must(t, "close", w.Close(first, left+1))
	pair(alone, 0)
	must(t, "close", w.Close(first, alone+1))
	a, _ = pair(shutR, 0)
	s.Shut(a, 0)
	a, _ = pair(shutW, 0)
	s.Shut(a, 1)
	pair(oneN, nonblock)
}

// scene answers a world with all that is listed above.
func scene(t testing.TB) *world.World {
	t.Helper()
	w := world.New(some)
	opens(t, w, root, api.KDir, 1, 0)
	stores(t, w)
	id := w.Pipe()
	opens(t, w, pipeR, api.KPipe, id, 0)
	opens(t, w, pipeW, api.KPipe, id, wr)
	doors(t, w)
	if fd, e := w.Dup(first, root, proc); fd != proc || e != api.OK { // what is passed is opened ahead of the others
		t.Fatal(fd, e)
	}
	must(t, "close", w.Close(first, proc))
	opened := w.Open(first, api.KProc, second, 0, slots.Full(1))
	must(t, "onto", w.Onto(first, opened, proc))
	must(t, "close", w.Close(first, opened))
	pairs(t, w)
	for pid := second; pid < nobody; pid++ {
		got, e := w.Fork(first, pid == second)
		if got != pid || e != api.OK {
			t.Fatal(got, e)
		}
	}
	must(t, "move", w.Move(second, 2))
	must(t, "enter", w.Procs().Enter(capable))
	must(t, "end", w.End(ended, 0))
	return w
}

// req answers a request.
func req(no int, s string, a ...int) api.Req {
	r := api.Req{No: no, S: s}
	copy(r.A[:], a)
	return r
}

// sends answers a request that sends descriptors with bytes.
func sends(fd int, s string, l ...int) api.Req {
	return api.Req{No: send, A: [5]int{fd}, S: s, L: l}
}

// names are the errors that are told here.
var names = map[api.Errno]string{
	api.ENOENT: "ENOENT", api.ESRCH: "ESRCH", api.EBADF: "EBADF", api.ENOTDIR: "ENOTDIR", api.EINVAL: "EINVAL", api.ENFILE: "ENFILE", api.EMFILE: "EMFILE",
	api.ENOSPC: "ENOSPC", api.EPIPE: "EPIPE", api.EAGAIN: "EAGAIN", api.ENOTSOCK: "ENOTSOCK", api.EOPNOTSUPP: "EOPNOTSUPP", api.EADDRINUSE: "EADDRINUSE", api.EISCONN: "EISCONN", api.ENOTCONN: "ENOTCONN",
	api.ECONNREFUSED: "ECONNREFUSED", api.ELOOP: "ELOOP", api.ENAMETOOLONG: "ENAMETOOLONG", api.ENOSYS: "ENOSYS", api.ENOTCAPABLE: "ENOTCAPABLE", api.ECAPMODE: "ECAPMODE", api.EWAIT: "EWAIT",
}

// kinds are the kinds of things, by short names.
var kinds = map[int]string{api.KFile: "file", api.KDir: "dir", api.KSymlink: "link", api.KBound: "name", api.KPipe: "pipe", api.KSock: "sock", api.KProc: "proc"}

// like tells rights and whitelists, where they are not all.
func like(s api.Slot) string {
	if s.Rights == api.CapAll && s.Ioctls.All && s.Fcntls == api.FcntlAll {
		return ""
	}
	return fmt.Sprintf(";%s;%s;%d", rights.Show(s.Rights), white.Show(s.Ioctls), s.Fcntls)
}

// sock tells a socket: its number, what it is bound to, how many may wait and which do, the one at its other end, what is shut, the bytes of each part and the descriptors with it.
func sock(s api.Sock) string {
	line := fmt.Sprintf("s%d", s.ID)
	if s.Bound != 0 {
		line += fmt.Sprintf("*%d", s.Bound)
	}
	if s.State == api.SockListens {
		line += fmt.Sprintf("~%d%v", s.Most, s.Waits)
	}
	if s.State == api.SockJoined {
		line += fmt.Sprintf("-%d", s.Peer)
	}
	if s.ShutR {
		line += "!r"
	}
	if s.ShutW {
		line += "!w"
	}
	var parts []string
	for _, p := range s.Parts {
		parts = append(parts, fmt.Sprintf("%s+%d", p.B, len(p.L)))
	}
	if len(parts) > 0 {
		line += "=" + strings.Join(parts, ",")
	}
	return line
}

// lines tells a dump as lines: inodes and entries, open files (kind, number, flags, how many name them), pipes, sockets, descriptors, processes.
func lines(d api.Dump) []string {
	var l []string
	for _, x := range d.Inodes {
		l = append(l, fmt.Sprintf("i%d:%s,%d,%d", x.Ino, kinds[x.Kind], x.Links, x.Holds))
	}
	for _, x := range d.Inodes {
		for i, name := range x.Names {
			l = append(l, fmt.Sprintf("%d/%s=%d", x.Ino, name, x.Inos[i]))
		}
	}
	for _, f := range d.Files {
		l = append(l, fmt.Sprintf("%s%d,%dx%d", kinds[f.Kind], f.Obj, f.Flags, f.Refs))
	}
	for _, p := range d.Pipes {
		l = append(l, fmt.Sprintf("p%d,%t,%t=%s", p.ID, p.Reads, p.Writes, p.B))
	}
	for _, s := range d.Socks {
		l = append(l, sock(s))
	}
	for _, h := range d.Held {
		i := slices.IndexFunc(d.Files, func(f api.File) bool { return f.ID == h.Slot.File })
		if i < 0 {
			l = append(l, fmt.Sprintf("%d.%d:nothing", h.Pid, h.Fd))
			continue
		}
		f := d.Files[i]
		l = append(l, fmt.Sprintf("%d.%d:%s%d,%d%s", h.Pid, h.Fd, kinds[f.Kind], f.Obj, f.Flags, like(h.Slot)))
	}
	for _, p := range d.Procs {
		l = append(l, fmt.Sprintf("pid%d,%t,%d@%d", p.Pid, p.Lives, p.Code, p.Cwd))
	}
	return l
}

// more answers the lines of a that b has not, or less often.
func more(a, b []string) []string {
	times := map[string]int{}
	for _, line := range b {
		times[line]++
	}
	var l []string
	for _, line := range a {
		if times[line]--; times[line] < 0 {
			l = append(l, line)
		}
	}
	return l
}

// outcome does a call, and tells what came of it, and what it changed: what went, and what came.
func outcome(w *world.World, pid int, r api.Req) string {
	before := w.Dump()
	x := Call(w, pid, r)
	after := w.Dump()
	if x.Err != api.OK {
		if !alike(before, after) {
			return names[x.Err] + " and a change"
		}
		if x.Val != 0 || x.S != "" || len(x.L) > 0 {
			return names[x.Err] + " and more"
		}
		return names[x.Err]
	}
	l := []string{fmt.Sprint(x.Val)}
	if x.S != "" {
		l = append(l, x.S)
	}
	if len(x.L) > 0 {
		l = append(l, fmt.Sprint(x.L))
	}
	was, now := lines(before), lines(after)
	for _, line := range more(was, now) {
		l = append(l, "-"+line)
	}
	for _, line := range more(now, was) {
		l = append(l, "+"+line)
	}
	return strings.Join(l, " ")
}

// alike tells whether all there is is the same in two dumps.
func alike(a, b api.Dump) bool {
	lists := func(a, b api.List) bool { return a.All == b.All && slices.Equal(a.L, b.L) }
	held := func(a, b api.Held) bool {
		x, y := a.Slot, b.Slot
		return a.Pid == b.Pid && a.Fd == b.Fd && x.File == y.File && x.Rights == y.Rights && x.Fcntls == y.Fcntls && lists(x.Ioctls, y.Ioctls)
	}
	inode := func(a, b api.Inode) bool {
		return a.Ino == b.Ino && a.Kind == b.Kind && a.Links == b.Links && a.Holds == b.Holds && a.Parent == b.Parent && a.Text == b.Text && a.Blocks == b.Blocks && slices.Equal(a.Names, b.Names) && slices.Equal(a.Inos, b.Inos)
	}
	passed := func(a, b api.Passed) bool {
		return a.File == b.File && a.Rights == b.Rights && a.Fcntls == b.Fcntls && lists(a.Ioctls, b.Ioctls)
	}
	part := func(a, b api.Part) bool {
		return slices.Equal(a.B, b.B) && slices.EqualFunc(a.L, b.L, passed)
	}
	socks := func(a, b api.Sock) bool {
		return a.ID == b.ID && a.State == b.State && a.Peer == b.Peer && a.Bound == b.Bound && a.Most == b.Most && a.ShutR == b.ShutR && a.ShutW == b.ShutW && slices.Equal(a.Waits, b.Waits) && slices.EqualFunc(a.Parts, b.Parts, part)
	}
	return a.Next == b.Next && slices.Equal(a.Procs, b.Procs) && slices.Equal(a.Files, b.Files) && slices.Equal(a.Pipes, b.Pipes) && fmt.Sprint(a.Parks) == fmt.Sprint(b.Parks) &&
		slices.EqualFunc(a.Held, b.Held, held) && slices.EqualFunc(a.Inodes, b.Inodes, inode) && slices.EqualFunc(a.Socks, b.Socks, socks)
}

// row is a call, and what comes of it.
type row struct {
	r    api.Req
	want string
}

// rowsOf does each row by a process in a scene of its own, which is changed first.
func rowsOf(t *testing.T, pid int, change func(w *world.World), rows []row) {
	t.Helper()
	for _, x := range rows {
		w := scene(t)
		change(w)
		if got := outcome(w, pid, x.r); got != x.want {
			t.Errorf("%d: %v:\n%s, not\n%s", pid, x.r, got, x.want)
		}
	}
}

// inTurn does each row by the first process in one scene, which is changed first.
func inTurn(t *testing.T, change func(w *world.World), rows []row) {
	t.Helper()
	w := scene(t)
	change(w)
	for i, x := range rows {
		if got := outcome(w, first, x.r); got != x.want {
			t.Errorf("%d: %v:\n%s, not\n%s", i, x.r, got, x.want)
		}
	}
}

// asIs changes nothing.
func asIs(*world.World) {}

// eachOf does a call on each descriptor of a scene, which is changed first: what comes of it is in want, or rest; of what is no socket it tells so.
func eachOf(t *testing.T, change func(w *world.World), r api.Req, rest string, want map[int]string) {
	t.Helper()
	at := 0
	if r.No == bindat || r.No == connectat {
		at = 1
	}
	for fd := range free {
		r.A[at] = fd
		tells, ok := want[fd]
		switch {
		case slices.Contains(notSocks, fd):
			tells = "ENOTSOCK"
		case !ok:
			tells = rest
		}
		rowsOf(t, first, change, []row{{r, tells}})
	}
}

// spare leaves a process so many free descriptors, and so many open files that there is room for.
func spare(t testing.TB, w *world.World, pid, fds, files int) {
	t.Helper()
	for w.Slots(pid).Room() > fds {
		if _, e := w.Dup(pid, root, 0); e != api.OK {
			t.Fatal(e)
		}
	}
	for w.Files().Room() > files {
		if _, e := w.Files().Open(api.KProc, 99, 0); e != api.OK {
			t.Fatal(e)
		}
	}
}

// The document's example.
func TestExample(t *testing.T) {
	w := world.New(some)
	for i, x := range []row{
		{req(socketpair, ""), "0 [0 1] +sock1,2x1 +sock2,2x1 +s1-2 +s2-1 +1.0:sock1,2 +1.1:sock2,2"},
		{sends(0, "x", 0), "1 -sock1,2x1 -s2-1 +sock1,2x2 +s2-1=x+1"},
		{req(recv, "", 1, 9, 4), "1 x [2] -s2-1=x+1 +s2-1 +1.2:sock1,2"},
	} {
		if got := outcome(w, first, x.r); got != x.want {
			t.Errorf("%d: %s, not %s", i, got, x.want)
		}
	}
	a, _, _ := w.Look(first, 0, 0)
	b, _, _ := w.Look(first, 2, 0)
	if a.File != b.File {
		t.Error(a, b)
	}
}

// noCalls are numbers that no call has.
var noCalls = []int{0, -1, -19, api.AtCwd, 65, 66, 100, 256 + 19, 1<<16 + 41, 1<<32 + 50, math.MaxInt, math.MinInt}

// P20.1: what Ready tells, Call tells alone, whatever else there is.
func TestCallTellsReady(t *testing.T) {
	w := scene(t)
	try := func(pid int, r api.Req, want api.Errno) {
		t.Helper()
		if got := dircalls.Ready(w, pid, r, "ipccalls"); got != want {
			t.Errorf("Ready(%d, %v): %v, not %v", pid, r, got, want)
		}
		if got := outcome(w, pid, r); got != names[want] {
			t.Errorf("Call(%d, %v): %s, not %v", pid, r, got, want)
		}
	}
	for _, pid := range []int{first, second, capable, ended, nobody, 0, -1, math.MaxInt, math.MinInt} {
		lives := pid == first || pid == second || pid == capable
		for no := 1; no <= api.Calls; no++ {
			want, shaped := api.ENOSYS, api.ENOSYS
			if slices.Contains(chapter, no) {
				want, shaped = api.EINVAL, api.OK
			}
			if !lives {
				want, shaped = api.ESRCH, api.ESRCH
			}
			try(pid, req(no, "", 0, 0, 0, 0, 1), want) // no call has so many numbers
			if shaped != api.OK {
				try(pid, req(no, ""), shaped)
				try(pid, req(no, "d", one), shaped)
			}
		}
		for _, no := range noCalls {
			if lives {
				try(pid, req(no, "", one, 1), api.ENOSYS)
			} else {
				try(pid, req(no, "", one, 1), api.ESRCH)
			}
		}
	}
}

// shapes are what each call is handed, by letters, from the document.
var shapes = map[int]string{
	pipe: "k", socket: "k", socketpair: "k", bind: "fS", bindat: "dfS", listen: "fb", connect: "fS", connectat: "dfS", accept: "fk", shutdown: "fh", send: "fBL", recv: "fnm",
}

// takes tells whether a number may stand for a letter, as chapter 16 says.
func takes(c byte, n int) bool {
	switch c {
	case 'k':
		return n == 0 || n == 4
	case 'b':
		return n >= 0 && n <= 1<<20
	case 'h':
		return n >= 0 && n <= 2
	case 'n':
		return n >= 0 && n <= 256
	case 'm':
		return n >= 0 && n <= 4
	}
	return true
}

// shaped is what chapter 16 asks of requests of these calls.
func shaped(r api.Req) bool {
	small := strings.TrimRight(shapes[r.No], "SBL")
	for i, n := range r.A {
		if i >= len(small) && n != 0 || i < len(small) && !takes(small[i], n) {
			return false
		}
	}
	bytes := 0
	switch {
	case r.No == send:
		bytes = 256
	case strings.Contains(shapes[r.No], "S"):
		bytes = 4096
	}
	return len(r.S) <= bytes && r.T == "" && (len(r.L) == 0 || r.No == send && len(r.L) <= 4)
}

// P20.1: requests of other shapes are EINVAL, ahead of what their descriptors tell, and change nothing.
func TestOtherShapes(t *testing.T) {
	w := scene(t)
	for no, shape := range shapes {
		small := strings.TrimRight(shape, "SBL")
		for _, fd := range []int{one, fresh, door, busy, sent, dir, file, free, -1} {
			a := [5]int{fd}
			if small == "df" {
				a = [5]int{dir, fd}
			}
			if small == "k" {
				a = [5]int{}
			}
			l := []api.Req{{No: no, A: a, T: "x"}, {No: no, A: a, S: strings.Repeat("x", api.MaxText+1)}}
			if no == send {
				l = append(l, api.Req{No: no, A: a, S: strings.Repeat("x", api.MaxIO+1)}, sends(fd, "x", 0, 1, 2, 3, 4))
			} else {
				l = append(l, api.Req{No: no, A: a, L: []int{0}})
			}
			if len(shape) == len(small) {
				l = append(l, api.Req{No: no, A: a, S: "x"})
			}
			for i := range 5 {
				for _, x := range []int{-1, 1, 2, 3, 4, 5, 8, 257, 1<<20 + 1, 1 << 32, math.MinInt, math.MaxInt} {
					r := api.Req{No: no, A: a}
					if r.A[i] = x; i >= len(small) || !takes(small[i], x) {
						l = append(l, r)
					}
				}
			}
			for _, r := range l {
				if got := outcome(w, first, r); got != "EINVAL" {
					t.Errorf("%v: %s", r, got)
				}
			}
		}
	}
}

// P20.1: a number of which there is no descriptor tells EBADF, whatever the call.
func TestNoDescriptor(t *testing.T) {
	w := scene(t)
	for _, fd := range []int{free, free + 1, most, beyond, beyond + 1, 64, 256, 1 << 32, 1<<32 + one, -1, -99, -101, api.AtCwd, math.MaxInt, math.MinInt} {
		for _, pid := range []int{first, second, capable} {
			for _, r := range onSocks(fd) {
				want := "EBADF"
				if pid == capable && (r.No == bind || r.No == connect) {
					want = "ECAPMODE"
				}
				if got := outcome(w, pid, r); got != want {
					t.Errorf("%d: %v: %s", pid, r, got)
				}
			}
			for _, no := range []int{bindat, connectat} {
				if got := outcome(w, pid, req(no, "s", fd, fresh)); got != "EBADF" && fd != api.AtCwd {
					t.Errorf("%d: %d of the directory %d: %s", pid, no, fd, got)
				}
			}
		}
	}
	if _, e := w.Dup(second, one, free); e != api.OK {
		t.Fatal(e)
	}
	for pid, want := range map[int]string{first: "EBADF", second: "0", capable: "EBADF"} {
		if got := outcome(w, pid, req(recv, "", free)); got != want {
			t.Errorf("%d: %s, not %s", pid, got, want)
		}
	}
}

// onSocks answers requests of each call on a socket.
func onSocks(fd int) []api.Req {
	var l []api.Req
	for _, s := range []string{"", "x", "d/s", "\x00"} {
		l = append(l, req(bind, s, fd), req(connect, s, fd), req(bindat, s, root, fd), req(connectat, s, root, fd))
	}
	for n := range 3 {
		l = append(l, req(listen, "", fd, n), req(accept, "", fd, n/2*4), req(shutdown, "", fd, n), req(recv, "", fd, n, 2*n))
	}
	return append(l, sends(fd, ""), sends(fd, "ab"), sends(fd, "ab", file), sends(fd, "", file), sends(fd, "", free), sends(fd, "ab", free))
}

// P20.1: what is open of no socket tells so, ahead of all that is wrong besides.
func TestNotSock(t *testing.T) {
	w := scene(t)
	for _, fd := range notSocks {
		for _, r := range onSocks(fd) {
			if got := outcome(w, first, r); got != "ENOTSOCK" {
				t.Errorf("%v: %s", r, got)
			}
		}
	}
}

// needs are the rights that calls need of their sockets, and calls with a directory of that, from the document.
var (
	needs = map[int]api.Rights{
		bind: api.CapBind, bindat: api.CapBind, listen: api.CapListen, connect: api.CapConnect, connectat: api.CapConnect, accept: api.CapAccept, shutdown: api.CapShutdown, send: api.CapWrite, recv: api.CapRead,
	}
	dirNeeds = map[int]api.Rights{bindat: api.CapLookup | api.CapBindat, connectat: api.CapLookup | api.CapConnectat}
)

// withRights does a call by the first process in a scene of its own, in which a descriptor has just these rights.
func withRights(t *testing.T, r api.Req, fd int, has api.Rights) string {
	w := scene(t)
	must(t, "limit", w.Slots(first).Limit(fd, has))
	return outcome(w, first, r)
}

// sets are rights to try, where these are needed.
func sets(need api.Rights) []api.Rights {
	l := []api.Rights{0, need, api.CapAll &^ need}
	for i := range 32 {
		l = append(l, api.CapAll&^(1<<i))
		if need&(1<<i) != 0 {
			l = append(l, 1<<i)
		}
	}
	return l
}

// P20.1: a socket's descriptor that has not all rights that its call needs tells so, ahead of all else, whatever it is open of; with just those the call goes.
func TestRights(t *testing.T) {
	for _, r := range []api.Req{
		req(bind, "x", fresh), req(bindat, "x", dir, fresh), req(bindat, "x", cwd, fresh), req(listen, "", bound, 2), req(connect, "d/s", fresh), req(connectat, "s", dir, fresh), req(connectat, "d/s", cwd, fresh),
		req(accept, "", busy), req(shutdown, "", one, 2), sends(one, "ab"), sends(one, "ab", file), req(recv, "", sent, 9, 4),
		req(bind, "x", file), req(bindat, "", dir, file), req(listen, "", dir), req(connect, "x", pipeR), req(connectat, "x", dir, proc), req(accept, "", root), req(shutdown, "", file), sends(pipeW, "", free), req(recv, "", pipeR),
	} {
		fd := r.A[0]
		if r.No == bindat || r.No == connectat {
			fd = r.A[1]
		}
		all := outcome(scene(t), first, r)
		bare := func(s string) string { return strings.Split(s, " ")[0] }
		for _, has := range sets(needs[r.No]) {
			want := bare(all)
			if needs[r.No]&^has != 0 {
				want = "ENOTCAPABLE"
			}
			if got := bare(withRights(t, r, fd, has)); got != want {
				t.Errorf("%v with %s: %s, not %s", r, rights.Show(has), got, want)
			}
		}
	}
}

// P20.1: pipe, socket and socketpair look at no descriptor, and a path from no number at none but the socket's.
func TestNoRightsNeeded(t *testing.T) {
	for _, r := range []api.Req{req(pipe, ""), req(socket, ""), req(socketpair, "", 4), req(bind, "x", fresh), req(connect, "d/s", fresh), req(bindat, "x", cwd, fresh)} {
		w := scene(t)
		for fd := range free {
			if fd != fresh {
				must(t, "limit", w.Slots(first).Limit(fd, 0))
			}
		}
		if x := Call(w, first, r); x.Err != api.OK {
			t.Errorf("%v: %v", r, x)
		}
	}
}

// P20.1: the directory's number is looked at with the rights that its call needs.
func TestDirectorysRights(t *testing.T) {
	for _, no := range []int{bindat, connectat} {
		path := map[int]string{bindat: "x", connectat: "s"}[no]
		for _, d := range []int{dir, file, pipeR, one} {
			for _, has := range sets(dirNeeds[no]) {
				want := "ENOTDIR"
				switch {
				case dirNeeds[no]&^has != 0:
					want = "ENOTCAPABLE"
				case d == dir:
					want = "0"
				}
				if got := withRights(t, req(no, path, d, fresh), d, has); strings.Split(got, " ")[0] != want {
					t.Errorf("%d of %d with %s: %s, not %s", no, d, rights.Show(has), got, want)
				}
			}
		}
	}
}

// P20.1: what is wrong with the directory's number is told ahead of what is with the socket's, and that ahead of the path.
func TestDirectoryFirst(t *testing.T) {
	limit := func(w *world.World) {
		s := w.Slots(first)
		must(t, "limit", s.Limit(root, api.CapAll&^api.CapLookup))
		must(t, "limit", s.Limit(file, 0))
		must(t, "limit", s.Limit(bound, api.CapAll&^api.CapBind&^api.CapConnect))
	}
	for _, no := range []int{bindat, connectat} {
		for _, path := range []string{"", "\x00", "none/x", "s", "new"} {
			for d, want := range map[int]string{free: "EBADF", -1: "EBADF", beyond: "EBADF", root: "ENOTCAPABLE", file: "ENOTCAPABLE", pipeR: "ENOTDIR", one: "ENOTDIR", proc: "ENOTDIR"} {
				for _, fd := range []int{free, -1, file, pipeW, bound, proc, fresh, one} {
					rowsOf(t, first, limit, []row{{req(no, path, d, fd), want}})
				}
			}
			for fd, want := range map[int]string{free: "EBADF", -1: "EBADF", cwd: "EBADF", file: "ENOTCAPABLE", bound: "ENOTCAPABLE", pipeW: "ENOTSOCK", proc: "ENOTSOCK", dir: "ENOTSOCK"} {
				for _, d := range []int{dir, gone, cwd} {
					rowsOf(t, first, limit, []row{{req(no, path, d, fd), want}})
				}
			}
		}
	}
}

// P20.1: in capability mode no path goes from where the process is; all else goes as without.
func TestCapabilityMode(t *testing.T) {
	w := scene(t)
	for _, fd := range []int{fresh, one, file, free, -1} {
		for _, path := range []string{"", "x", "d/s", "/", "\x00"} {
			for _, r := range []api.Req{req(bind, path, fd), req(connect, path, fd), req(bindat, path, cwd, fd), req(connectat, path, cwd, fd)} {
				if got := outcome(w, capable, r); got != "ECAPMODE" {
					t.Errorf("%v: %s", r, got)
				}
			}
		}
	}
	l := []api.Req{req(pipe, "", 4), req(socket, ""), req(socketpair, "")}
	for fd := range free {
		for _, r := range onSocks(fd) {
			if r.No != bind && r.No != connect {
				l = append(l, r)
			}
		}
	}
	for _, r := range l {
		w, v := scene(t), scene(t)
		a, b := Call(w, first, r), Call(v, capable, r)
		if fmt.Sprint(a) != fmt.Sprint(b) {
			t.Errorf("%v: %v, in capability mode %v", r, a, b)
		}
	}
}
