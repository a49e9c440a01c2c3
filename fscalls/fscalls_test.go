package fscalls

import (
	"fmt"
	"math"
	"slices"
	"strings"
	"testing"

	"purlieu/api"
	"purlieu/dircalls"
	"purlieu/rights"
	"purlieu/slots"
	"purlieu/white"
	"purlieu/world"
)

// The calls of this chapter, by their names.
const (
	read, write, closes, dup, dup2, fcntl, ioctl, lseek = 3, 4, 6, 17, 18, 20, 21, 25
	ftruncate, fstat, fsync, pread, pwrite, getdents    = 26, 27, 29, 30, 31, 32
)

// chapter are all of them.
var chapter = []int{read, write, closes, dup, dup2, fcntl, ioctl, lseek, ftruncate, fstat, fsync, pread, pwrite, getdents}

// Some flags, by short names.
const (
	wr, both, nonblock, app = api.OWrite, api.OBoth, api.ONonblock, api.OAppend
)

// The descriptors that each process of a scene has, with all rights.
const (
	fileR   = iota // the file f, to be read
	fileW          // f, to be written
	fileB          // f, both
	fileA          // f, both, to be written at its end
	again          // the open file of fileB a second time
	other          // f, both, by another open file
	dir            // the directory d
	gone           // a directory without a link
	pipeR          // an empty pipe's reading end
	pipeW          // its writing end
	fullR          // a full pipe's
	fullW          //
	someR          // one's with three bytes
	someW          //
	leftR          // the reading end of one with two bytes, whose writing end is closed
	emptyR         // likewise, of one without bytes
	lostW          // the writing end of one, whose reading end is closed
	fresh          // a socket that is fresh
	listens        // one that listens
	one            // one that is joined to the next one; nothing waits in both
	two            //
	sent           // one with three bytes, with which two descriptors were passed, and two bytes more, with which one was
	full           // its other end, with as many bytes as there is room for
	left           // one with two bytes, whose other end is gone
	alone          // one without bytes, whose other end is gone
	shutR          // one that was shut for reading
	talks          // its other end
	shutW          // one that was shut for writing
	hears          // its other end
	proc           // the process 2
	free           // none: the first one that is free
	most           // the last number
	beyond         // one more
)

// The processes of a scene.
const (
	first   = 1
	second  = 2 // in the directory d
	capable = 3 // in capability mode
	ended   = 4 // does not live any more
	nobody  = 5 // is not there
)

// some are limits such as come: the files of a scene have two blocks, so one more can be had.
var some = api.Limits{Procs: 5, Fds: beyond, Files: 50, Inodes: 12, Blocks: 3, Pipe: 8, Sock: 8}

// The inodes of a scene.
const (
	inoD, inoF, inoGone = 2, 3, 4
)

// must says that what the scene needs was told no error.
func must(t testing.TB, what string, e api.Errno) {
	t.Helper()
	if e != api.OK {
		t.Fatalf("%s: %v", what, e)
	}
}

// opens opens a file of the first process, which is to be that descriptor.
func opens(t testing.TB, w *world.World, fd, kind, obj, flags int) {
	t.Helper()
	if got := w.Open(first, kind, obj, flags, slots.Full(1)); got != fd {
		t.Fatalf("opened %d %d: %d, not %d", kind, obj, got, fd)
	}
}

// stores makes what is in the file system, and opens it.
func stores(t testing.TB, w *world.World) {
	t.Helper()
	fs := w.FS()
	for _, x := range []struct {
		dir, kind int
		name      string
		want      int
	}{{1, api.KDir, "d", inoD}, {inoD, api.KFile, "f", inoF}, {1, api.KDir, "gone", inoGone}, {inoD, api.KDir, "e", 5}, {inoD, api.KSymlink, "in", 6}, {inoD, api.KFile, "g", 7}} {
		target := ""
		if x.kind == api.KSymlink {
			target = "f"
		}
		if ino, e := fs.Create(x.dir, x.name, x.kind, target); ino != x.want || e != api.OK {
			t.Fatalf("%s: %d %v", x.name, ino, e)
		}
	}
	must(t, "write", fs.Write(inoF, 0, []byte("hello")))
	must(t, "write", fs.Write(7, 0, []byte("x")))
	must(t, "link", fs.Link(1, "h", inoF))
	for fd, flags := range []int{fileR: 0, fileW: wr, fileB: both, fileA: both | app} {
		opens(t, w, fd, api.KFile, inoF, flags)
	}
	if fd, e := w.Dup(first, fileB, again); fd != again || e != api.OK {
		t.Fatal(fd, e)
	}
	opens(t, w, other, api.KFile, inoF, both)
	opens(t, w, dir, api.KDir, inoD, 0)
	opens(t, w, gone, api.KDir, inoGone, 0)
	must(t, "rmdir", fs.Rmdir(1, "gone"))
}

// pipes makes pipes and opens their ends.
func pipes(t testing.TB, w *world.World) {
	t.Helper()
	for _, x := range []struct {
		fd   int
		b    string
		ends []int
	}{{pipeR, "", []int{0, wr}}, {fullR, "12345678", []int{0, wr}}, {someR, "abc", []int{0, wr}}, {leftR, "xy", []int{0, wr}}, {emptyR, "", []int{0, wr}}, {lostW, "", []int{wr, 0}}} {
		p := w.Pipe()
		w.Ring(p).Put([]byte(x.b))
		for i, flags := range x.ends {
			opens(t, w, x.fd+i, api.KPipe, p, flags)
		}
		if x.fd >= leftR {
			must(t, "close", w.Close(first, x.fd+1))
		}
	}
}

// passes answers descriptors of the first process as they are passed.
func passes(t testing.TB, w *world.World, fds ...int) []api.Passed {
	t.Helper()
	var l []api.Passed
	for _, fd := range fds {
		p, e := w.Pass(first, fd)
		must(t, "pass", e)
		l = append(l, p)
	}
	return l
}

// sockets makes sockets and opens them.
func sockets(t testing.TB, w *world.World) {
	t.Helper()
	s := w.Socks()
	sock := func(fd, id int) { opens(t, w, fd, api.KSock, id, both) }
	sock(fresh, s.Make())
	sock(listens, s.Make())
	_, f, _ := w.Look(first, listens, 0)
	must(t, "bind", s.Bind(f.Obj, 99))
	must(t, "listen", s.Listen(f.Obj, 2))
	pair := func(fd int) (int, int) {
		a, b := s.Pair()
		sock(fd, a)
		sock(fd+1, b)
		return a, b
	}
	send := func(id int, b string, fds ...int) {
		if n, e := s.Send(id, []byte(b), passes(t, w, fds...)); n != len(b) || e != api.OK {
			t.Fatalf("sent %s: %d %v", b, n, e)
		}
	}
	pair(one)
	a, b := pair(sent)
	send(b, "abc", fileR, fileB)
	send(b, "de", dir)
	send(a, "12345678")
	_, b = pair(left)
	send(b, "xy")
	must(t, "close", w.Close(first, left+1))
	pair(alone)
	must(t, "close", w.Close(first, alone+1))
	a, _ = pair(shutR)
	s.Shut(a, 0)
	a, _ = pair(shutW)
	s.Shut(a, 1)
}

// scene answers a world with all that is listed above.
func scene(t testing.TB) *world.World {
	t.Helper()
	w := world.New(some)
	stores(t, w)
	pipes(t, w)
	sockets(t, w)
	opens(t, w, proc, api.KProc, second, 0)
	for pid := second; pid < nobody; pid++ {
		got, e := w.Fork(first, pid == second)
		if got != pid || e != api.OK {
			t.Fatal(got, e)
		}
	}
	must(t, "move", w.Move(second, inoD))
	must(t, "enter", w.Procs().Enter(capable))
	must(t, "end", w.End(ended, 0))
	return w
}

// req answers a request.
func req(no int, s string, a ...int) api.Req {
	r := api.Req{No: no, S: s}
	copy(r.A[:], a)
	return r
}

// names are the errors that are told here.
var names = map[api.Errno]string{
	api.ENOENT: "ENOENT", api.ESRCH: "ESRCH", api.EBADF: "EBADF", api.ENOTDIR: "ENOTDIR", api.EISDIR: "EISDIR", api.EINVAL: "EINVAL", api.EMFILE: "EMFILE", api.ENOTTY: "ENOTTY",
	api.EFBIG: "EFBIG", api.ENOSPC: "ENOSPC", api.ESPIPE: "ESPIPE", api.EPIPE: "EPIPE", api.EAGAIN: "EAGAIN", api.EOPNOTSUPP: "EOPNOTSUPP", api.ENOTCONN: "ENOTCONN",
	api.ENOSYS: "ENOSYS", api.ENOTCAPABLE: "ENOTCAPABLE", api.EWAIT: "EWAIT",
}

// like tells a descriptor's rights and whitelists.
func like(s api.Slot) string {
	if s.Rights == api.CapAll && s.Ioctls.All && s.Fcntls == api.FcntlAll {
		return ""
	}
	return fmt.Sprintf(";%s;%s;%d", rights.Show(s.Rights), white.Show(s.Ioctls), s.Fcntls)
}

// lines tells a dump as lines: inodes, open files (kind, number, where they stand, flags, how many name them), pipes, sockets, descriptors, processes.
func lines(d api.Dump) []string {
	var l []string
	kinds := map[int]string{api.KFile: "file", api.KDir: "dir", api.KPipe: "pipe", api.KSock: "sock", api.KProc: "proc"}
	for _, x := range d.Inodes {
		l = append(l, fmt.Sprintf("i%d=%s,%d,%d,%d", x.Ino, x.Text, x.Links, x.Holds, x.Blocks))
	}
	for _, f := range d.Files {
		l = append(l, fmt.Sprintf("%s%d@%d,%dx%d", kinds[f.Kind], f.Obj, f.Off, f.Flags, f.Refs))
	}
	for _, p := range d.Pipes {
		l = append(l, fmt.Sprintf("p%d,%t,%t=%s", p.ID, p.Reads, p.Writes, p.B))
	}
	for _, s := range d.Socks {
		parts := ""
		for _, p := range s.Parts {
			parts += fmt.Sprintf("%s+%d ", p.B, len(p.L))
		}
		l = append(l, strings.TrimSpace(fmt.Sprintf("s%d-%d=%s", s.ID, s.Peer, parts)))
	}
	for _, h := range d.Held {
		f := d.Files[slices.IndexFunc(d.Files, func(f api.File) bool { return f.ID == h.Slot.File })]
		l = append(l, fmt.Sprintf("%d.%d:%s%d,%d%s", h.Pid, h.Fd, kinds[f.Kind], f.Obj, f.Flags, like(h.Slot)))
	}
	for _, p := range d.Procs {
		l = append(l, fmt.Sprintf("pid%d,%t,%d@%d", p.Pid, p.Lives, p.Code, p.Cwd))
	}
	return l
}

// more answers the lines of a that b has not, or less often.
func more(a, b []string) []string {
	times := map[string]int{}
	for _, line := range b {
		times[line]++
	}
	var l []string
	for _, line := range a {
		if times[line]--; times[line] < 0 {
			l = append(l, line)
		}
	}
	return l
}

// outcome does a call, and tells what came of it, and what it changed: what went, and what came.
func outcome(w *world.World, pid int, r api.Req) string {
	before := w.Dump()
	x := Call(w, pid, r)
	after := w.Dump()
	if x.Err != api.OK {
		if !alike(before, after) {
			return names[x.Err] + " and a change"
		}
		if x.Val != 0 || x.S != "" || len(x.L) > 0 {
			return names[x.Err] + " and more"
		}
		return names[x.Err]
	}
	l := []string{fmt.Sprint(x.Val)}
	if x.S != "" {
		l = append(l, x.S)
	}
	if len(x.L) > 0 {
		l = append(l, fmt.Sprint(x.L))
	}
	was, now := lines(before), lines(after)
	for _, line := range more(was, now) {
		l = append(l, "-"+line)
	}
	for _, line := range more(now, was) {
		l = append(l, "+"+line)
	}
	return strings.Join(l, " ")
}

// alike tells whether all there is is the same in two dumps.
func alike(a, b api.Dump) bool {
	lists := func(a, b api.List) bool { return a.All == b.All && slices.Equal(a.L, b.L) }
	held := func(a, b api.Held) bool {
		x, y := a.Slot, b.Slot
		return a.Pid == b.Pid && a.Fd == b.Fd && x.File == y.File && x.Rights == y.Rights && x.Fcntls == y.Fcntls && lists(x.Ioctls, y.Ioctls)
	}
	inode := func(a, b api.Inode) bool {
		return a.Ino == b.Ino && a.Kind == b.Kind && a.Links == b.Links && a.Holds == b.Holds && a.Parent == b.Parent && a.Text == b.Text && a.Blocks == b.Blocks && slices.Equal(a.Names, b.Names) && slices.Equal(a.Inos, b.Inos)
	}
	passed := func(a, b api.Passed) bool {
		return a.File == b.File && a.Rights == b.Rights && a.Fcntls == b.Fcntls && lists(a.Ioctls, b.Ioctls)
	}
	part := func(a, b api.Part) bool {
		return slices.Equal(a.B, b.B) && slices.EqualFunc(a.L, b.L, passed)
	}
	sock := func(a, b api.Sock) bool {
		return a.ID == b.ID && a.State == b.State && a.Peer == b.Peer && a.Bound == b.Bound && a.Most == b.Most && a.ShutR == b.ShutR && a.ShutW == b.ShutW && slices.Equal(a.Waits, b.Waits) && slices.EqualFunc(a.Parts, b.Parts, part)
	}
	return a.Next == b.Next && slices.Equal(a.Procs, b.Procs) && slices.Equal(a.Files, b.Files) && slices.Equal(a.Pipes, b.Pipes) && fmt.Sprint(a.Parks) == fmt.Sprint(b.Parks) &&
		slices.EqualFunc(a.Held, b.Held, held) && slices.EqualFunc(a.Inodes, b.Inodes, inode) && slices.EqualFunc(a.Socks, b.Socks, sock)
}

// row is a call on a descriptor, and what comes of it.
type row struct {
	r    api.Req
	want string
}

// rowsOf does each row in a scene of its own, which is changed first.
func rowsOf(t *testing.T, change func(w *world.World), rows []row) {
	t.Helper()
	for _, x := range rows {
		w := scene(t)
		change(w)
		if got := outcome(w, first, x.r); got != x.want {
			t.Errorf("%v: %s, not %s", x.r, got, x.want)
		}
	}
}

// asIs changes nothing.
func asIs(*world.World) {}

// eachOf does a call on each descriptor of a scene, which is changed first: what comes of it is in want, or rest.
func eachOf(t *testing.T, change func(w *world.World), r api.Req, rest string, want map[int]string) {
	t.Helper()
	for fd := range free {
		r.A[0] = fd
		tells, ok := want[fd]
		if !ok {
			tells = rest
		}
		rowsOf(t, change, []row{{r, tells}})
	}
}

// flagged lets all open files have these of the flags ONonblock and OAppend.
func flagged(flags int) func(w *world.World) {
	return func(w *world.World) {
		for _, f := range w.Files().Dump() {
			w.Files().SetFlags(f.ID, flags)
		}
	}
}

// stands lets the open file of a descriptor stand there.
func stands(fd, off int) func(w *world.World) {
	return func(w *world.World) {
		_, f, _ := w.Look(first, fd, 0)
		w.Files().Seek(f.ID, off)
	}
}

// The document's example.
func TestExample(t *testing.T) {
	w := world.New(some)
	p := w.Pipe()
	opens(t, w, 0, api.KPipe, p, 0)
	opens(t, w, 1, api.KPipe, p, wr)
	for i, x := range []row{
		{req(write, "ab", 1), "2 -p1,true,true= +p1,true,true=ab"},
		{req(read, "", 0, 9), "2 ab -p1,true,true=ab +p1,true,true="},
		{req(read, "", 0, 9), "EWAIT"},
	} {
		if got := outcome(w, first, x.r); got != x.want {
			t.Errorf("%d: %s, not %s", i, got, x.want)
		}
	}
}

// noCalls are numbers that no call has.
var noCalls = []int{0, -1, -3, api.AtCwd, 65, 66, 100, 256 + 3, 1<<16 + 4, 1<<32 + 3, math.MaxInt, math.MinInt}

// P19.1: what Ready tells, Call tells alone, whatever else there is.
func TestCallTellsReady(t *testing.T) {
	w := scene(t)
	try := func(pid int, r api.Req, want api.Errno) {
		t.Helper()
		if got := dircalls.Ready(w, pid, r, "fscalls"); got != want {
			t.Errorf("Ready(%d, %v): %v, not %v", pid, r, got, want)
		}
		if got := outcome(w, pid, r); got != names[want] {
			t.Errorf("Call(%d, %v): %s, not %v", pid, r, got, want)
		}
	}
	for _, pid := range []int{first, second, capable, ended, nobody, 0, -1, math.MaxInt, math.MinInt} {
		lives := pid == first || pid == second || pid == capable
		for no := 1; no <= api.Calls; no++ {
			want, shaped := api.ENOSYS, api.ENOSYS
			if slices.Contains(chapter, no) {
				want, shaped = api.EINVAL, api.OK
			}
			if !lives {
				want, shaped = api.ESRCH, api.ESRCH
			}
			try(pid, req(no, "", 0, 0, 0, 0, 1), want) // no call has so many numbers
			if shaped != api.OK {
				try(pid, req(no, ""), shaped)
				try(pid, req(no, "d", fileR), shaped)
			}
		}
		for _, no := range noCalls {
			if lives {
				try(pid, req(no, "", fileR, 1), api.ENOSYS)
			} else {
				try(pid, req(no, "", fileR, 1), api.ESRCH)
			}
		}
	}
}

// shapes are the numbers of each call, by letters, and whether it has a text, from the document.
var shapes = map[int]string{
	read: "fn", write: "fB", closes: "f", dup: "f", dup2: "fx", fcntl: "fxx", ioctl: "fxx", lseek: "fiw",
	ftruncate: "fo", fstat: "f", fsync: "f", pread: "fno", pwrite: "foB", getdents: "fc",
}

// P19.1: requests of other shapes are EINVAL, ahead of what their descriptors tell, and change nothing.
func TestOtherShapes(t *testing.T) {
	most := map[byte]int{'n': api.MaxIO, 'o': 1 << 40, 'w': 2, 'c': 64}
	for no, shape := range shapes {
		for _, fd := range []int{fileB, dir, pipeR, one, proc, free, -1} {
			l := []api.Req{{No: no, A: [5]int{fd}, T: "x"}, {No: no, A: [5]int{fd}, L: []int{0}}, {No: no, A: [5]int{fd}, S: strings.Repeat("x", api.MaxIO+1)}}
			if !strings.Contains(shape, "B") {
				l = append(l, req(no, "x", fd))
			}
			for i := 1; i < 5; i++ {
				r := req(no, "", fd)
				n := len(strings.TrimSuffix(shape, "B"))
				for _, x := range []int{-1, math.MinInt, math.MaxInt, 1} {
					if r.A[i] = x; i >= n || most[shape[i]] > 0 && (x < 0 || x > most[shape[i]]) {
						l = append(l, r)
					}
				}
				if i < n && most[shape[i]] > 0 {
					r.A[i] = most[shape[i]] + 1
					l = append(l, r)
				}
			}
			w := scene(t)
			for _, r := range l {
				if got := outcome(w, first, r); got != "EINVAL" {
					t.Errorf("%v: %s", r, got)
				}
			}
		}
	}
}

// P19.1: the greatest numbers and texts that shapes allow are no wrong ones.
func TestGreatestShapes(t *testing.T) {
	long := strings.Repeat("x", api.MaxIO)
	rowsOf(t, asIs, []row{
		{req(read, "", fileB, api.MaxIO), "5 hello -file3@0,2x7 +file3@5,2x7"},
		{req(pread, "", fileB, api.MaxIO, 1<<40), "0"},
		{req(write, long[128:], fileB), "128 -i3=hello,2,5,1 -file3@0,2x7 +i3=" + long[128:] + ",2,5,2 +file3@128,2x7"},
		{req(write, long, fileB), "ENOSPC"}, {req(pwrite, long, fileB), "ENOSPC"},
		{req(write, long, pipeW), "8 -p1,true,true= +p1,true,true=xxxxxxxx"},
		{req(ftruncate, "", fileB, 1<<40), "EFBIG"}, {req(pwrite, "", fileB, 1<<40), "EFBIG"},
		{req(getdents, "", dir, 64), "4 e/f/g/in -dir2@0,0x4 +dir2@4,0x4"},
		{req(lseek, "", fileB, math.MaxInt, 2), "EINVAL"}, {req(lseek, "", fileB, math.MinInt, 2), "EINVAL"},
	})
}

// needs are the rights that each call needs of its descriptor, from the document; of fcntl and lseek below.
var needs = map[int]api.Rights{
	read: api.CapRead, write: api.CapWrite, ioctl: api.CapIoctl, ftruncate: api.CapTruncate, fstat: api.CapStat, fsync: api.CapFsync,
	pread: api.CapRead | api.CapSeek, pwrite: api.CapWrite | api.CapSeek, getdents: api.CapReaddir,
}

// asked is a request of each call, and the rights that it needs.
func asked(fd int) map[string]struct {
	r    api.Req
	need api.Rights
} {
	l := map[string]struct {
		r    api.Req
		need api.Rights
	}{}
	put := func(r api.Req, need api.Rights) {
		l[fmt.Sprint(r)] = struct {
			r    api.Req
			need api.Rights
		}{r, need}
	}
	for _, no := range chapter {
		if no != lseek {
			put(req(no, "", fd), needs[no])
		}
	}
	put(req(read, "", fd, 2), needs[read])
	put(req(pread, "", fd, 2, 1), needs[pread])
	put(req(write, "ab", fd), needs[write])
	put(req(pwrite, "ab", fd, 1), needs[pwrite])
	put(req(ftruncate, "", fd, 2), needs[ftruncate])
	put(req(getdents, "", fd, 2), needs[getdents])
	put(req(dup2, "", fd, free), 0)
	for cmd := -1; cmd < 9; cmd++ {
		need := api.Rights(0)
		if cmd >= 3 && cmd <= 6 {
			need = api.CapFcntl
		}
		put(req(fcntl, "", fd, cmd, 4), need)
		put(req(ioctl, "", fd, cmd, 1), needs[ioctl])
	}
	for how := range 3 {
		for _, off := range []int{-1, 0, 1} {
			need := api.CapSeek
			if off == 0 && how == 1 {
				need = api.CapTell
			}
			put(req(lseek, "", fd, off, how), need)
		}
	}
	return l
}

// answered tells what comes of a call by the first process in a scene of its own, in which a descriptor is made less.
func answered(t *testing.T, r api.Req, limit func(*slots.Table)) string {
	w := scene(t)
	limit(w.Slots(first))
	x := Call(w, first, r)
	return fmt.Sprint(x.Val, x.Err, x.S, x.L)
}

// P19.1: a descriptor that has not all rights that its call needs tells so, ahead of all else; with just those it tells what one with all rights does.
func TestRights(t *testing.T) {
	for _, fd := range []int{fileR, fileB, dir, pipeR, pipeW, one, proc} {
		for _, x := range asked(fd) {
			limit := func(r api.Rights) func(*slots.Table) {
				return func(s *slots.Table) { must(t, "limit", s.Limit(fd, r)) }
			}
			all := answered(t, x.r, func(*slots.Table) {})
			try := func(r api.Rights) {
				t.Helper()
				want := all
				if x.need&^r != 0 {
					want = fmt.Sprint(0, api.ENOTCAPABLE, "", []int{})
				}
				if got := answered(t, x.r, limit(r)); got != want {
					t.Errorf("%v with %s: %s, not %s", x.r, rights.Show(r), got, want)
				}
			}
			try(0)
			try(x.need)
			try(api.CapAll &^ x.need)
			for i := range 32 {
				try(api.CapAll &^ (1 << i))
				if x.need&(1<<i) != 0 {
					try(1 << i)
				}
			}
		}
	}
}

// P19.1: a number of which there is no descriptor tells EBADF, whatever the call, and ahead of what would be wrong with it.
func TestNoDescriptor(t *testing.T) {
	w := scene(t)
	for _, fd := range []int{free, free + 1, most, beyond, beyond + 1, 64, 256, 1 << 32, -1, api.AtCwd, math.MaxInt, math.MinInt} {
		for _, x := range asked(fd) {
			for _, pid := range []int{first, second, capable} {
				if got := outcome(w, pid, x.r); got != "EBADF" {
					t.Errorf("%d: %v: %s", pid, x.r, got)
				}
			}
		}
	}
}

// P19.1: capability mode takes nothing from these calls; each process has its own descriptors.
func TestCapabilityMode(t *testing.T) {
	for fd := range free {
		for _, x := range asked(fd) {
			w, v := scene(t), scene(t)
			a, b := Call(w, first, x.r), Call(v, capable, x.r)
			if fmt.Sprint(a) != fmt.Sprint(b) {
				t.Errorf("%v: %v, in capability mode %v", x.r, a, b)
			}
		}
	}
	w := scene(t)
	must(t, "close", w.Close(capable, fileB))
	for _, x := range []struct {
		pid  int
		want string
	}{{capable, "EBADF"}, {second, "5 hello -file3@0,2x6 +file3@5,2x6"}, {first, "0"}} {
		if got := outcome(w, x.pid, req(read, "", fileB, 9)); got != x.want {
			t.Errorf("%d: %s, not %s", x.pid, got, x.want)
		}
	}
}

// waysOf are, for each kind of thing and each way, what read of two bytes, write of two and of none, pread, pwrite and ftruncate tell.
var waysOf = []struct {
	kind, way int
	want      [6]api.Errno
}{
	{api.KFile, 0, [6]api.Errno{0, api.EBADF, api.EBADF, 0, api.EBADF, api.EINVAL}},
	{api.KFile, wr, [6]api.Errno{api.EBADF, 0, 0, api.EBADF, 0, 0}},
	{api.KFile, both, [6]api.Errno{}},
	{api.KDir, 0, [6]api.Errno{api.EISDIR, api.EBADF, api.EBADF, api.EISDIR, api.ESPIPE, api.EINVAL}},
	{api.KDir, wr, [6]api.Errno{api.EISDIR, api.EINVAL, api.EINVAL, api.EISDIR, api.ESPIPE, api.EINVAL}},
	{api.KDir, both, [6]api.Errno{api.EISDIR, api.EINVAL, api.EINVAL, api.EISDIR, api.ESPIPE, api.EINVAL}},
	{api.KPipe, 0, [6]api.Errno{0, api.EBADF, api.EBADF, api.ESPIPE, api.ESPIPE, api.EINVAL}},
	{api.KPipe, wr, [6]api.Errno{api.EBADF, 0, 0, api.ESPIPE, api.ESPIPE, api.EINVAL}},
	{api.KPipe, both, [6]api.Errno{0, 0, 0, api.ESPIPE, api.ESPIPE, api.EINVAL}}, // without OWrite it is a reading end, of the way of both
	{api.KSock, 0, [6]api.Errno{0, api.EBADF, api.EBADF, api.ESPIPE, api.ESPIPE, api.EINVAL}},
	{api.KSock, wr, [6]api.Errno{api.EBADF, 0, 0, api.ESPIPE, api.ESPIPE, api.EINVAL}},
	{api.KSock, both, [6]api.Errno{0, 0, 0, api.ESPIPE, api.ESPIPE, api.EINVAL}},
	{api.KProc, 0, [6]api.Errno{api.EOPNOTSUPP, api.EOPNOTSUPP, api.EOPNOTSUPP, api.ESPIPE, api.ESPIPE, api.EINVAL}},
	{api.KProc, wr, [6]api.Errno{api.EOPNOTSUPP, api.EOPNOTSUPP, api.EOPNOTSUPP, api.ESPIPE, api.ESPIPE, api.EINVAL}},
	{api.KProc, both, [6]api.Errno{api.EOPNOTSUPP, api.EOPNOTSUPP, api.EOPNOTSUPP, api.ESPIPE, api.ESPIPE, api.EINVAL}},
}

// P19.1 to P19.3, P19.5: the way of an open file is its lowest two flags, whatever the others are.
func TestWays(t *testing.T) {
	for _, x := range waysOf {
		for _, more := range []int{0, nonblock, app, nonblock | app} {
			w := scene(t)
			objs := map[int]int{api.KFile: inoF, api.KDir: inoD, api.KPipe: 3, api.KSock: 3, api.KProc: second}
			if _, e := w.Socks().Send(4, []byte("abcd"), nil); e != api.OK {
				t.Fatal(e)
			}
			opens(t, w, free, x.kind, objs[x.kind], x.way|more)
			for i, r := range []api.Req{req(read, "", free, 2), req(write, "ab", free), req(write, "", free), req(pread, "", free, 2, 0), req(pwrite, "ab", free, 0), req(ftruncate, "", free, 4)} {
				if got := Call(w, first, r); got.Err != x.want[i] {
					t.Errorf("kind %d, flags %d: %v: %v, not %v", x.kind, x.way|more, r, got, x.want[i])
				}
			}
		}
	}
}
