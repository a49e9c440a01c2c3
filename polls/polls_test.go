package polls

import (
	"fmt"
	"math"
	"slices"
	"strings"
	"testing"

	"purlieu/api"
	"purlieu/dircalls"
	"purlieu/fscalls"
	"purlieu/ipccalls"
	"purlieu/slots"
	"purlieu/world"
)

// The call of this chapter, and calls of others that read and write.
const (
	polling = 52
	read    = 3
	write   = 4
	send    = 50
	recv    = 51
)

// Some flags, by short names.
const (
	wr, both, nonblock, app = api.OWrite, api.OBoth, api.ONonblock, api.OAppend
)

// The processes of a scene.
const (
	first   = 1
	second  = 2 // a child of the first one, with the same descriptors
	capable = 3 // likewise, in capability mode
	inner   = 4 // a child of that one
	ended   = 5
	gone    = 6 // was reaped
	empty   = 7 // a child of the first one, without descriptors
)

// holders are those that live and have the descriptors, notLiving are numbers of those that don't live.
var (
	holders   = []int{first, second, capable, inner}
	notLiving = []int{ended, gone, 0, -1, 8, math.MaxInt, math.MinInt}
)

// The descriptors of a scene. Those that are not said to be limited have all rights.
const (
	fileR   = iota // the file f, to be read
	fileW          // f, to be written
	fileB          // f, both
	fileN          // f, to be read, with ONonblock
	fileA          // f, to be written at its end
	fileBN         // f, both, with all flags
	lost           // a file without a link, to be written
	dirR           // the root
	dirW           // the root, to be written, as no call opens it
	dirB           // the root, both
	lostDir        // a directory without a link
	emptyR         // an empty pipe's reading end
	emptyW         // its writing end
	someR          // one's with three bytes
	someW          //
	fullR          // a full pipe's
	fullW          //
	quietR         // an empty pipe's, with ONonblock
	quietW         //
	stuckR         // a full pipe's, with ONonblock and OAppend
	stuckW         //
	endR           // the reading end of an empty one, whose writing end is closed
	leftR          // likewise, with three bytes
	lastR          // likewise, full
	deafW          // the writing end of an empty one, whose reading end is closed
	spiltW         // likewise; it was full ahead of that
	fresh          // a socket that is fresh
	bound          // one that is bound
	door           // one that listens, at which none waits
	busy           // one that listens, at which one waits
	client         // that one's other end
	one            // one that is joined to the next one; nothing waits in both
	two            //
	given          // one with two bytes
	giver          // its other end
	full           // one that is full
	filler         // its other end
	parts          // one with as many parts as there may be, and room for bytes
	parter         // its other end
	quiet          // one that is joined to the next one; the open files of both have ONonblock
	quieter        //
	left           // one with two bytes, whose other end is gone
	alone          // one without bytes, whose other end is gone
	shutR          // one that was shut for reading
	talks          // its other end
	shutW          // one that was shut for writing
	hears          // its other end
	shutB          // one that was shut for both
	silent         // its other end
	heard          // a full one, whose other end was shut for writing
	said           // that
	proc           // the process 2, which lives
	procE          // a process that ended
	procG          // one that was reaped
	self           // the process 1
	mute           // someR's open file once more, with all rights but event
	just           // someR's open file once more, with the right event alone
	free           // none: the first one that is free
	beyond  = free + 2
)

// tells is what each descriptor of a scene tells: r, if it can be read, w, if it can be written.
var tells = map[int]string{
	fileR: "r", fileW: "w", fileB: "rw", fileN: "r", fileA: "w", fileBN: "rw", lost: "w",
	dirR: "r", dirW: "w", dirB: "rw", lostDir: "r",
	emptyR: "", emptyW: "w", someR: "r", someW: "w", fullR: "r", fullW: "", quietR: "", quietW: "w", stuckR: "r", stuckW: "",
	endR: "r", leftR: "r", lastR: "r", deafW: "w", spiltW: "w",
	fresh: "", bound: "", door: "", busy: "r", client: "w",
	one: "w", two: "w", given: "rw", giver: "w", full: "rw", filler: "", parts: "rw", parter: "w", quiet: "w", quieter: "w",
	left: "rw", alone: "rw",
	shutR: "rw", talks: "w", shutW: "w", hears: "rw", shutB: "rw", silent: "rw", heard: "rw", said: "w",
	proc: "", procE: "r", procG: "r", self: "",
	just: "r",
}

// can answers what a descriptor of a scene tells as a number: 1 to be read, 2 to be written.
func can(fd int) int { return strings.Count(tells[fd], "r") + 2*strings.Count(tells[fd], "w") }

// some are limits such as come.
var some = api.Limits{Procs: 7, Fds: beyond, Files: 70, Inodes: 8, Blocks: 4, Pipe: 4, Sock: 20}

// must says that what the scene needs was told no error.
func must(t testing.TB, what string, e api.Errno) {
	t.Helper()
	if e != api.OK {
		t.Fatalf("%s: %v", what, e)
	}
}

// opens opens something for the first process, which is to be that descriptor.
func opens(t testing.TB, w *world.World, fd, kind, obj, flags int) {
	t.Helper()
	if got := w.Open(first, kind, obj, flags, slots.Full(1)); got != fd {
		t.Fatalf("opened %d %d: %d, not %d", kind, obj, got, fd)
	}
}

// stores makes what is in the file system, and opens it.
func stores(t testing.TB, w *world.World) {
	t.Helper()
	fs := w.FS()
	for i, x := range []struct {
		name string
		kind int
	}{{"f", api.KFile}, {"lost", api.KFile}, {"gone", api.KDir}} {
		if ino, e := fs.Create(1, x.name, x.kind, ""); ino != 2+i || e != api.OK {
			t.Fatal(ino, e)
		}
	}
	for i, flags := range []int{0, wr, both, nonblock, wr | app, both | app | nonblock} {
		opens(t, w, fileR+i, api.KFile, 2, flags)
	}
	opens(t, w, lost, api.KFile, 3, wr)
	for i, flags := range []int{0, wr, both} {
		opens(t, w, dirR+i, api.KDir, 1, flags)
	}
	opens(t, w, lostDir, api.KDir, 4, 0)
	must(t, "unlink", fs.Unlink(1, "lost"))
	must(t, "rmdir", fs.Rmdir(1, "gone"))
}

// pipes makes pipes, and opens their ends.
func pipes(t testing.TB, w *world.World) {
	t.Helper()
	for _, x := range []struct {
		fd    int
		b     string
		flags int
	}{{emptyR, "", 0}, {someR, "abc", 0}, {fullR, "abcd", 0}, {quietR, "", nonblock}, {stuckR, "abcd", nonblock | app}} {
		id := w.Pipe()
		w.Ring(id).Put([]byte(x.b))
		opens(t, w, x.fd, api.KPipe, id, x.flags)
		opens(t, w, x.fd+1, api.KPipe, id, wr|x.flags)
	}
	for _, x := range []struct {
		fd  int
		b   string
		way int
	}{{endR, "", 0}, {leftR, "abc", 0}, {lastR, "abcd", 0}, {deafW, "", wr}, {spiltW, "abcd", wr}} {
		id := w.Pipe()
		w.Ring(id).Put([]byte(x.b))
		opens(t, w, x.fd, api.KPipe, id, x.way)
		opens(t, w, x.fd+1, api.KPipe, id, wr-x.way)
		must(t, "close", w.Close(first, x.fd+1))
	}
}

// doors makes sockets that are fresh, bound, and listen.
func doors(t testing.TB, w *world.World) {
	t.Helper()
	s := w.Socks()
	for fd := fresh; fd <= busy; fd++ {
		id := s.Make()
		opens(t, w, fd, api.KSock, id, both)
		if fd != fresh {
			must(t, "bind", s.Bind(id, 90+fd))
		}
		if fd == door || fd == busy {
			must(t, "listen", s.Listen(id, 2))
		}
	}
	id := s.Make()
	opens(t, w, client, api.KSock, id, both)
	must(t, "connect", s.Connect(id, s.Find(90+busy)))
}

// pair makes sockets that are joined, of which the first one has some bytes.
func pair(t testing.TB, w *world.World, fd int, b string, flags int) (int, int) {
	t.Helper()
	x, y := w.Socks().Pair()
	opens(t, w, fd, api.KSock, x, both|flags)
	opens(t, w, fd+1, api.KSock, y, both|flags)
	if b != "" {
		if n, e := w.Socks().Send(y, []byte(b), nil); n != len(b) || e != api.OK {
			t.Fatal(n, e)
		}
	}
	return x, y
}

// pairs makes sockets that are joined, in all ways.
func pairs(t testing.TB, w *world.World) {
	t.Helper()
	s := w.Socks()
	lots := strings.Repeat("x", some.Sock)
	pair(t, w, one, "", 0)
	pair(t, w, given, "ab", 0)
	pair(t, w, full, lots, 0)
	_, y := pair(t, w, parts, "", 0)
	for range api.MaxParts {
		p, e := w.Pass(first, fileR)
		must(t, "pass", e)
		_, e = s.Send(y, []byte("x"), []api.Passed{p})
		must(t, "send", e)
	}
	pair(t, w, quiet, "", nonblock)
	pair(t, w, left, "ab", 0)
	must(t, "close", w.Close(first, left+1))
	pair(t, w, alone, "", 0)
	must(t, "close", w.Close(first, alone+1))
	for _, x := range []struct{ fd, how int }{{shutR, 0}, {shutW, 1}, {shutB, 2}} {
		id, _ := pair(t, w, x.fd, "", 0)
		_, e := s.Shut(id, x.how)
		must(t, "shut", e)
	}
	_, y = pair(t, w, heard, lots, 0)
	_, e := s.Shut(y, 1)
	must(t, "shut", e)
}

// processes makes the processes; each one has what the first one has.
func processes(t testing.TB, w *world.World) {
	t.Helper()
	for pid := second; pid <= empty; pid++ {
		parent := first
		if pid == inner {
			parent = capable
		}
		if got, e := w.Fork(parent, pid == second || pid == gone); got != pid || e != api.OK {
			t.Fatal(got, e)
		}
		if pid == capable {
			must(t, "enter", w.Procs().Enter(pid))
		}
	}
	for _, fd := range w.Slots(empty).All() {
		must(t, "close", w.Close(empty, fd))
	}
	must(t, "end", w.End(ended, 55))
	must(t, "end", w.End(gone, 66))
	_, e := w.Procs().Reap(gone)
	must(t, "reap", e)
}

// scene answers a world with all that is listed above.
func scene(t testing.TB) *world.World {
	t.Helper()
	w := world.New(some)
	stores(t, w)
	pipes(t, w)
	doors(t, w)
	pairs(t, w)
	for i, pid := range []int{second, ended, gone, first} {
		opens(t, w, proc+i, api.KProc, pid, 0)
	}
	for fd, rights := range map[int]api.Rights{mute: api.CapAll &^ api.CapEvent, just: api.CapEvent} {
		if got, e := w.Dup(first, someR, fd); got != fd || e != api.OK {
			t.Fatal(got, e)
		}
		must(t, "limit", w.Slots(first).Limit(fd, rights))
	}
	processes(t, w)
	return w
}

// asks answers a request of poll.
func asks(how int, l ...int) api.Req { return api.Req{No: polling, A: [5]int{how}, L: l} }

// names are the errors that are told here.
var names = map[api.Errno]string{
	api.ESRCH: "ESRCH", api.EBADF: "EBADF", api.EINVAL: "EINVAL", api.ENOSYS: "ENOSYS", api.ENOTCAPABLE: "ENOTCAPABLE", api.EWAIT: "EWAIT",
}

// ready tells what Ready does, which changes nothing.
func ready(w *world.World, pid, fd int) string {
	before := w.Dump()
	reads, writes, e := Ready(w, pid, fd)
	what := ""
	if reads {
		what += "r"
	}
	if writes {
		what += "w"
	}
	if e != api.OK {
		what += names[e]
	}
	if !alike(before, w.Dump()) {
		what += " and a change"
	}
	return what
}

// told tells what a call told.
func told(x api.Res) string {
	switch {
	case x.S != "":
		return "and a text"
	case x.Err == api.OK && len(x.L) > 0:
		return fmt.Sprint(x.Val, x.L)
	case x.Err == api.OK:
		return fmt.Sprint(x.Val)
	case x.Val != 0 || len(x.L) > 0:
		return names[x.Err] + " and more"
	}
	return names[x.Err]
}

// outcome does a call, and tells what came of it. It may change nothing, what it is handed neither.
func outcome(w *world.World, pid int, r api.Req) string {
	before, l := w.Dump(), slices.Clone(r.L)
	what := told(Call(w, pid, r))
	if !alike(before, w.Dump()) {
		what += " and a change"
	}
	if !slices.Equal(l, r.L) {
		what += " and another list"
	}
	return what
}

// alike tells whether all there is is the same in two dumps.
func alike(a, b api.Dump) bool {
	lists := func(a, b api.List) bool { return a.All == b.All && slices.Equal(a.L, b.L) }
	held := func(a, b api.Held) bool {
		x, y := a.Slot, b.Slot
		return a.Pid == b.Pid && a.Fd == b.Fd && x.File == y.File && x.Rights == y.Rights && x.Fcntls == y.Fcntls && lists(x.Ioctls, y.Ioctls)
	}
	inode := func(a, b api.Inode) bool {
		return a.Ino == b.Ino && a.Kind == b.Kind && a.Links == b.Links && a.Holds == b.Holds && a.Parent == b.Parent && a.Text == b.Text && a.Blocks == b.Blocks && slices.Equal(a.Names, b.Names) && slices.Equal(a.Inos, b.Inos)
	}
	passed := func(a, b api.Passed) bool {
		return a.File == b.File && a.Rights == b.Rights && a.Fcntls == b.Fcntls && lists(a.Ioctls, b.Ioctls)
	}
	part := func(a, b api.Part) bool {
		return slices.Equal(a.B, b.B) && slices.EqualFunc(a.L, b.L, passed)
	}
	socks := func(a, b api.Sock) bool {
		return a.ID == b.ID && a.State == b.State && a.Peer == b.Peer && a.Bound == b.Bound && a.Most == b.Most && a.ShutR == b.ShutR && a.ShutW == b.ShutW && slices.Equal(a.Waits, b.Waits) && slices.EqualFunc(a.Parts, b.Parts, part)
	}
	return a.Next == b.Next && slices.Equal(a.Procs, b.Procs) && slices.Equal(a.Files, b.Files) && slices.Equal(a.Pipes, b.Pipes) && fmt.Sprint(a.Parks) == fmt.Sprint(b.Parks) &&
		slices.EqualFunc(a.Held, b.Held, held) && slices.EqualFunc(a.Inodes, b.Inodes, inode) && slices.EqualFunc(a.Socks, b.Socks, socks)
}

// The document's example.
func TestExample(t *testing.T) {
	w := world.New(some)
	id := w.Pipe()
	opens(t, w, 0, api.KPipe, id, 0)
	opens(t, w, 1, api.KPipe, id, wr)
	if got := ready(w, first, 0); got != "" {
		t.Errorf("the reading end: %s", got)
	}
	if got := ready(w, first, 1); got != "w" {
		t.Errorf("the writing end: %s", got)
	}
}

// P23.1: each descriptor, by each process that has it, in capability mode and not.
func TestReady(t *testing.T) {
	w := scene(t)
	if len(tells) != free-1 {
		t.Errorf("%d descriptors are spoken of", len(tells))
	}
	for _, pid := range holders {
		for fd, want := range tells {
			if got := ready(w, pid, fd); got != want {
				t.Errorf("%d: %d: %q, not %q", pid, fd, got, want)
			}
		}
	}
}

// P23.1: what Look tells is told alone: of those who don't live, of what is free, of what has not the right event.
func TestReadyTellsLook(t *testing.T) {
	w := scene(t)
	none := []int{free, free + 1, beyond, -1, api.AtCwd, 64, 1 << 32, math.MaxInt, math.MinInt}
	for _, pid := range holders {
		for _, fd := range none {
			if got := ready(w, pid, fd); got != "EBADF" {
				t.Errorf("%d: %d: %q", pid, fd, got)
			}
		}
		if got := ready(w, pid, mute); got != "ENOTCAPABLE" {
			t.Errorf("%d: mute: %q", pid, got)
		}
	}
	for fd := -1; fd <= beyond; fd++ {
		if got := ready(w, empty, fd); got != "EBADF" {
			t.Errorf("empty: %d: %q", fd, got)
		}
		for _, pid := range notLiving {
			if got := ready(w, pid, fd); got != "ESRCH" {
				t.Errorf("%d: %d: %q", pid, fd, got)
			}
		}
	}
}

// P23.1: the right event is needed, and no other one.
func TestReadyNeedsEvent(t *testing.T) {
	for i := range 32 {
		for _, x := range []struct {
			left api.Rights
			can  bool
		}{{api.CapAll &^ (1 << i), i != 27}, {1 << i, i == 27}} {
			w := scene(t)
			for _, fd := range []int{fileR, dirR, someR, someW, given, proc} {
				want := "ENOTCAPABLE"
				if x.can {
					want = tells[fd]
				}
				must(t, "limit", w.Slots(first).Limit(fd, x.left))
				if got := ready(w, first, fd); got != want {
					t.Errorf("%d with %b: %q, not %q", fd, x.left, got, want)
				}
			}
		}
	}
}

// step is something that happens, and what two descriptors tell then.
type step struct {
	what     string
	do       func(w *world.World)
	one, two string
}

// walk takes steps in a scene.
func walk(t *testing.T, one, two int, l []step) {
	t.Helper()
	w := scene(t)
	for _, x := range l {
		x.do(w)
		if a, b := ready(w, first, one), ready(w, first, two); a != x.one || b != x.two {
			t.Errorf("%s: %q and %q, not %q and %q", x.what, a, b, x.one, x.two)
		}
	}
}

// does answers a step that does a call of another chapter.
func does(pid int, r api.Req) func(w *world.World) {
	return func(w *world.World) {
		if x := fscalls.Call(w, pid, r); x.Err != api.ENOSYS {
			return
		}
		ipccalls.Call(w, pid, r)
	}
}

// on answers a request on a descriptor.
func on(no, fd, n int, s string) api.Req { return api.Req{No: no, A: [5]int{fd, n}, S: s} }

// only lets just the first process hold a descriptor.
func only(fd int) func(w *world.World) {
	return func(w *world.World) {
		for _, pid := range holders[1:] {
			w.Close(pid, fd)
		}
	}
}

// P23.1: of a pipe, as bytes come and go, and as its ends are closed.
func TestReadyOfPipes(t *testing.T) {
	walk(t, emptyR, emptyW, []step{
		{"empty", only(emptyR), "", "w"},
		{"one byte", does(second, on(write, emptyW, 0, "a")), "r", "w"},
		{"three", does(capable, on(write, emptyW, 0, "bc")), "r", "w"},
		{"full", does(first, on(write, emptyW, 0, "d")), "r", ""},
		{"no more fits", does(first, on(write, emptyW, 0, "e")), "r", ""},
		{"one is read", does(first, on(read, emptyR, 1, "")), "r", "w"},
		{"full again", does(first, on(write, emptyW, 0, "f")), "r", ""},
		{"all are read", does(first, on(read, emptyR, 9, "")), "", "w"},
		{"the writing end is closed by one", func(w *world.World) { w.Close(second, emptyW) }, "", "w"},
		{"by two", func(w *world.World) { w.Close(capable, emptyW) }, "", "w"},
		{"it is passed", func(w *world.World) {
			ipccalls.Call(w, inner, api.Req{No: send, A: [5]int{one}, S: "x", L: []int{emptyW}})
			w.Close(inner, emptyW)
		}, "", "w"},
		{"by all but what is passed", func(w *world.World) { w.Close(first, emptyW) }, "", "EBADF"},
		{"what is passed is let go", does(first, on(read, two, 1, "")), "r", "EBADF"},
	})
	walk(t, fullR, fullW, []step{
		{"full", only(fullR), "r", ""},
		{"the reading end is closed", func(w *world.World) { w.Close(first, fullR) }, "EBADF", "w"},
	})
	walk(t, fullR, fullW, []step{
		{"full", only(fullW), "r", ""},
		{"the writing end is closed", func(w *world.World) { w.Close(first, fullW) }, "r", "EBADF"},
		{"all are read", does(first, on(read, fullR, 9, "")), "r", "EBADF"},
	})
	walk(t, someR, someW, []step{
		{"ONonblock", func(w *world.World) {
			for _, fd := range []int{someR, someW} {
				_, f, _ := w.Look(first, fd, 0)
				w.Files().SetFlags(f.ID, nonblock|app)
			}
		}, "r", "w"},
		{"all are read", does(first, on(read, someR, 9, "")), "", "w"},
	})
}

// P23.1: of sockets, as bytes come and go, and as they are shut and closed.
func TestReadyOfSockets(t *testing.T) {
	lots := strings.Repeat("x", some.Sock-1)
	walk(t, one, two, []step{
		{"nothing", only(two), "w", "w"},
		{"one byte", does(second, on(send, one, 0, "a")), "w", "rw"},
		{"full", does(second, on(write, one, 0, lots)), "", "rw"},
		{"one is read", does(first, on(recv, two, 1, "")), "w", "rw"},
		{"both", does(first, on(send, two, 0, "b")), "rw", "rw"},
		{"the first one is shut for reading", func(w *world.World) { shuts(w, one, 0) }, "rw", "rw"},
		{"and for writing", func(w *world.World) { shuts(w, one, 1) }, "rw", "rw"},
		{"all is read", does(first, on(read, two, 99, "")), "rw", "rw"},
		{"the second one is closed", func(w *world.World) { w.Close(first, two) }, "rw", "EBADF"},
	})
	walk(t, one, two, []step{
		{"full", does(second, on(write, one, 0, lots+"x")), "", "rw"},
		{"shut for writing", func(w *world.World) { shuts(w, one, 1) }, "w", "rw"},
		{"its other end for reading", func(w *world.World) { shuts(w, two, 0) }, "w", "rw"},
		{"its other end for writing", func(w *world.World) { shuts(w, two, 1) }, "rw", "rw"},
	})
	walk(t, full, filler, []step{
		{"full", only(full), "rw", ""},
		{"closed", func(w *world.World) { w.Close(first, full) }, "EBADF", "rw"},
	})
	walk(t, full, filler, []step{
		{"shut for reading", func(w *world.World) { shuts(w, full, 0) }, "rw", "w"},
	})
}

// shuts shuts the socket of a descriptor.
func shuts(w *world.World, fd, how int) {
	ipccalls.Call(w, first, on(49, fd, how, ""))
}

// P23.1: of sockets that listen, as others connect to them, are accepted, and go; and of those.
func TestReadyOfDoors(t *testing.T) {
	connect := func(fd, to int) func(w *world.World) {
		return func(w *world.World) {
			s := w.Socks()
			_, f, _ := w.Look(first, fd, 0)
			s.Connect(f.Obj, s.Find(90+to))
		}
	}
	walk(t, door, fresh, []step{
		{"none waits", func(*world.World) {}, "", ""},
		{"one waits", connect(fresh, door), "r", "w"},
		{"it has sent", does(first, on(send, fresh, 0, "a")), "r", "w"},
		{"it is accepted", does(first, on(48, door, 0, "")), "", "w"},
		{"it is sent something", func(w *world.World) {
			fd, _ := w.Slots(first).Free(0)
			does(first, on(send, fd-1, 0, "b"))(w)
		}, "", "rw"},
	})
	walk(t, busy, client, []step{
		{"one waits", only(client), "r", "w"},
		{"another one, too", connect(fresh, busy), "r", "w"},
		{"one is accepted", does(first, on(48, busy, 0, "")), "r", "w"},
		{"and the other one", does(first, on(48, busy, 0, "")), "", "w"},
	})
	walk(t, busy, client, []step{
		{"one waits", only(client), "r", "w"},
		{"the one that waits has no other end any more", func(w *world.World) { w.Close(first, client) }, "r", "EBADF"},
	})
	walk(t, busy, client, []step{
		{"it listens no more", func(w *world.World) {
			for _, pid := range holders {
				w.Close(pid, busy)
			}
		}, "EBADF", "rw"},
	})
	walk(t, bound, bound, []step{
		{"bound", func(*world.World) {}, "", ""},
		{"it listens", does(first, on(45, bound, 1, "")), "", ""},
	})
}

// P23.1: of processes, as they end, are waited for, and go.
func TestReadyOfProcesses(t *testing.T) {
	walk(t, proc, self, []step{
		{"lives", func(*world.World) {}, "", ""},
		{"waits", func(w *world.World) { w.Park(second, api.Req{No: read}) }, "", ""},
		{"ends", func(w *world.World) { w.End(second, 0) }, "r", ""},
		{"is reaped", func(w *world.World) { w.Procs().Reap(second) }, "r", ""},
		{"its parent ends", func(w *world.World) { w.End(capable, 0) }, "r", ""},
	})
}

// P23.1: how a file is open alone says what it tells, not what is in it, nor where it stands.
func TestReadyOfFiles(t *testing.T) {
	walk(t, fileR, fileW, []step{
		{"empty", func(*world.World) {}, "r", "w"},
		{"written", does(first, on(write, fileW, 0, "abc")), "r", "w"},
		{"read to its end", does(first, on(read, fileR, 9, "")), "r", "w"},
		{"another way", func(w *world.World) {
			_, f, _ := w.Look(first, fileR, 0)
			w.Files().SetFlags(f.ID, api.OStays)
			w.Files().SetFlags(f.ID+1, nonblock)
		}, "r", "w"},
		{"unlinked", func(w *world.World) { w.FS().Unlink(1, "f") }, "r", "w"},
		{"cut", func(w *world.World) { w.FS().Truncate(2, api.MaxFile) }, "r", "w"},
		{"at its end", func(w *world.World) {
			_, f, _ := w.Look(first, fileW, 0)
			w.Files().Seek(f.ID, api.MaxFile)
		}, "r", "w"},
	})
}

// P23.1: of what no call brings about: bytes in a pipe that nobody can read any more; pipes, sockets and processes that there are not, with any flags.
func TestReadyOfWhatIsNotThere(t *testing.T) {
	w := world.New(some)
	id := w.Pipe()
	opens(t, w, 0, api.KPipe, id, wr)
	opens(t, w, 1, api.KPipe, id, 0)
	must(t, "close", w.Close(first, 1))
	w.Ring(id).Put([]byte("abcd"))
	opens(t, w, 1, api.KPipe, 9, 0)
	opens(t, w, 2, api.KPipe, 9, wr)
	opens(t, w, 3, api.KSock, 9, both)
	opens(t, w, 4, api.KProc, 9, both)
	opens(t, w, 5, api.KFile, 9, both)
	for fd, want := range []string{"w", "r", "w", "", "r", "rw"} {
		if got := ready(w, first, fd); got != want {
			t.Errorf("%d: %q, not %q", fd, got, want)
		}
	}
	if fd := w.Give(first, api.Passed(slots.Full(99))); fd != 6 {
		t.Fatal(fd)
	}
	if got := ready(w, first, 6); got != "" {
		t.Errorf("an open file that there is not: %q", got)
	}
}

// noCalls are numbers that no call has.
var noCalls = []int{0, -1, -2, api.AtCwd, 65, 66, 100, 256 + 52, 1<<16 + 52, 1<<32 + 52, math.MaxInt, math.MinInt}

// P23.2: what dircalls.Ready tells, Call tells alone, whatever else there is.
func TestCallTellsReady(t *testing.T) {
	w := scene(t)
	try := func(pid int, r api.Req, want api.Errno) {
		t.Helper()
		if got := dircalls.Ready(w, pid, r, "polls"); got != want {
			t.Errorf("Ready(%d, %v): %v, not %v", pid, r, got, want)
		}
		if got := outcome(w, pid, r); got != names[want] {
			t.Errorf("Call(%d, %v): %s, not %v", pid, r, got, want)
		}
	}
	for no := 1; no <= api.Calls; no++ {
		want := api.ENOSYS
		if no == polling {
			want = api.EINVAL
		}
		for _, r := range []api.Req{{No: no, A: [5]int{0, 0, 0, 0, 1}}, {No: no, A: [5]int{5, 5}, L: []int{fileR, 1}}, {No: no, S: "f", L: []int{free}}} {
			for _, pid := range append([]int{empty}, holders...) {
				try(pid, r, want)
			}
			for _, pid := range notLiving {
				try(pid, r, api.ESRCH)
			}
		}
	}
	for _, no := range noCalls {
		try(first, api.Req{No: no, L: []int{fileR, 1}}, api.ENOSYS)
		try(capable, api.Req{No: no}, api.ENOSYS)
		try(ended, api.Req{No: no}, api.ESRCH)
	}
	for _, pid := range notLiving {
		try(pid, asks(0), api.ESRCH)
		try(pid, asks(1, fileR, 1), api.ESRCH)
		try(pid, asks(0, free, 1), api.ESRCH)
	}
}

// P23.2: requests of other shapes are EINVAL, ahead of what their descriptors tell.
func TestOtherShapes(t *testing.T) {
	w := scene(t)
	var l []api.Req
	for _, fd := range []int{fileB, emptyR, mute, free, -1, beyond} {
		for _, how := range []int{0, 1} {
			l = append(l, asks(how, fd), asks(how, fileB, 1, fd), asks(how, fd, 1, fileB))
			for _, asked := range []int{0, 4, 5, 7, 8, -1, -2, 1 << 32, 1<<32 + 1, math.MaxInt, math.MinInt} {
				l = append(l, asks(how, fd, asked), asks(how, fileB, 1, fd, asked), asks(how, fd, asked, fileB, 1))
			}
			for pairs := 9; pairs < 40; pairs++ {
				l = append(l, asks(how, slices.Repeat([]int{fd, 3}, pairs)...))
			}
			r := asks(how, fd, 1)
			for i := 1; i < 5; i++ {
				r.A = [5]int{how}
				r.A[i] = 1
				l = append(l, r)
			}
			l = append(l, api.Req{No: polling, S: "x", L: r.L}, api.Req{No: polling, T: "x", L: r.L})
		}
		for _, how := range []int{2, 3, -1, 1 << 32, math.MaxInt, math.MinInt} {
			l = append(l, asks(how), asks(how, fd, 1))
		}
	}
	for _, r := range l {
		for _, pid := range []int{first, capable, empty} {
			if got := outcome(w, pid, r); got != "EINVAL" {
				t.Errorf("%d: %v: %s", pid, r, got)
			}
		}
	}
}

// P23.2: each descriptor alone, asked for each of what it can be asked for, each how, by each process.
func TestPollOfOne(t *testing.T) {
	w := scene(t)
	for fd := range tells {
		for asked := 1; asked <= 3; asked++ {
			for how := range 2 {
				got := outcome(w, holders[(fd+asked)%len(holders)], asks(how, fd, asked))
				want := fmt.Sprintf("1 [%d]", can(fd)&asked)
				switch {
				case can(fd)&asked == 0 && how == 0:
					want = "EWAIT"
				case can(fd)&asked == 0:
					want = "0 [0]"
				}
				if got != want {
					t.Errorf("how %d, %d asked for %d: %s, not %s", how, fd, asked, got, want)
				}
			}
		}
	}
}

// P23.2: lists of no pairs, one, and as many as may be; of those that can be and can't; of what can't be looked at, and where in the list that is.
func TestPollOfMany(t *testing.T) {
	w := scene(t)
	for _, x := range []struct {
		pid  int
		r    api.Req
		want string
	}{
		{first, asks(0), "0"},
		{first, asks(1), "0"},
		{empty, asks(0), "0"},
		{inner, api.Req{No: polling, L: []int{}}, "0"},
		{first, asks(0, emptyR, 3, emptyW, 3), "1 [0 2]"},
		{first, asks(0, emptyW, 3, emptyR, 3), "1 [2 0]"},
		{first, asks(1, emptyW, 1, emptyR, 2), "0 [0 0]"},
		{first, asks(0, emptyW, 1, emptyR, 2), "EWAIT"},
		{first, asks(0, given, 1, given, 2, given, 3), "3 [1 2 3]"},
		{second, asks(0, given, 3, emptyR, 1, given, 3), "2 [3 0 3]"},
		{first, asks(0, emptyR, 1, emptyR, 1), "EWAIT"},
		{first, asks(1, emptyR, 1, emptyR, 1), "0 [0 0]"},
		{first, asks(0, fileR, 2), "EWAIT"},
		{first, asks(1, fileR, 2), "0 [0]"},
		{first, asks(0, fileR, 2, fileR, 1), "1 [0 1]"},
		{capable, asks(0, emptyR, 3, fullW, 3, fresh, 3, bound, 3, door, 3, filler, 3, proc, 3, self, 3), "EWAIT"},
		{capable, asks(1, emptyR, 3, fullW, 3, fresh, 3, bound, 3, door, 3, filler, 3, proc, 3, self, 3), "0 [0 0 0 0 0 0 0 0]"},
		{first, asks(0, emptyR, 3, fullW, 3, fresh, 3, bound, 3, door, 3, filler, 3, proc, 3, procE, 3), "1 [0 0 0 0 0 0 0 1]"},
		{first, asks(0, slices.Repeat([]int{fileB, 3}, 8)...), "8 [3 3 3 3 3 3 3 3]"},
		{first, asks(1, slices.Repeat([]int{fileB, 2, emptyR, 1}, 4)...), "4 [2 0 2 0 2 0 2 0]"},
		{first, asks(0, just, 3), "1 [1]"},
		{first, asks(0, free, 1), "EBADF"},
		{first, asks(1, free, 1), "EBADF"},
		{first, asks(1, mute, 1), "ENOTCAPABLE"},
		{first, asks(0, fileB, 3, free, 1), "EBADF"},
		{first, asks(0, free, 1, fileB, 3), "EBADF"},
		{first, asks(0, emptyR, 1, free, 1), "EBADF"},
		{first, asks(1, fileB, 3, mute, 3), "ENOTCAPABLE"},
		{first, asks(1, mute, 3, fileB, 3), "ENOTCAPABLE"},
		{first, asks(0, mute, 1, free, 1), "ENOTCAPABLE"},
		{first, asks(0, free, 1, mute, 1), "EBADF"},
		{first, asks(1, fileB, 1, fileB, 1, fileB, 1, fileB, 1, fileB, 1, fileB, 1, fileB, 1, -1, 1), "EBADF"},
		{first, asks(1, fileB, 1, mute, 1, fileB, 1, fileB, 1, fileB, 1, fileB, 1, fileB, 1, -1, 1), "ENOTCAPABLE"},
		{first, asks(0, math.MaxInt, 1), "EBADF"},
		{first, asks(0, math.MinInt, 1), "EBADF"},
		{empty, asks(0, fileB, 1), "EBADF"},
	} {
		if got := outcome(w, x.pid, x.r); got != x.want {
			t.Errorf("%d: %v: %s, not %s", x.pid, x.r, got, x.want)
		}
	}
}

// P23.2: all pairs of descriptors, each how.
func TestPollOfTwo(t *testing.T) {
	w := scene(t)
	before := w.Dump()
	for a := range free {
		for b := range free {
			for i := range 18 {
				how, x, y := i%2, 1+i/2%3, 1+i/6
				got := told(Call(w, first, asks(how, a, x, b, y)))
				l := []int{can(a) & x, can(b) & y}
				val := min(l[0], 1) + min(l[1], 1)
				want := fmt.Sprint(val, l)
				switch {
				case a == mute || b == mute:
					want = "ENOTCAPABLE"
				case val == 0 && how == 0:
					want = "EWAIT"
				}
				if got != want {
					t.Fatalf("how %d, %d for %d, %d for %d: %s, not %s", how, a, x, b, y, got, want)
				}
			}
		}
	}
	if !alike(before, w.Dump()) {
		t.Error("a change")
	}
}

// P23.3: nothing is changed, not even that a process waits: not by what tells EWAIT, and not by an answer that is written to.
func TestNoChange(t *testing.T) {
	w := scene(t)
	w.Park(second, on(read, emptyR, 1, ""))
	for _, r := range []api.Req{asks(0, emptyR, 1), asks(1, emptyR, 1), asks(0, given, 3, busy, 1, procE, 1), asks(0, free, 1), asks(0)} {
		for _, pid := range holders {
			if got := outcome(w, pid, r); strings.Contains(got, "and") {
				t.Errorf("%d: %v: %s", pid, r, got)
			}
		}
	}
	if _, waits := w.Parked(first); waits {
		t.Error("it waits")
	}
	r := asks(0, append(make([]int, 0, 20), given, 3, given, 1)...)
	x, y := Call(w, first, r), Call(w, first, r)
	for i := range x.L[:cap(x.L)] {
		x.L[:cap(x.L)][i] = 77
	}
	if !slices.Equal(y.L, []int{3, 1}) || !slices.Equal(r.L, []int{given, 3, given, 1}) || slices.Max(r.L[:cap(r.L)]) == 77 {
		t.Errorf("%v, %v behind an answer that is written to", y, r)
	}
}

// waits does a call of another chapter, and tells whether it would wait.
func waits(t *testing.T, w *world.World, pid int, r api.Req) bool {
	t.Helper()
	x := fscalls.Call(w, pid, r)
	if x.Err == api.ENOSYS {
		x = ipccalls.Call(w, pid, r)
	}
	if x.Err == api.EBADF || x.Err == api.ENOTCAPABLE || x.Err == api.ENOSYS || x.Err == api.EINVAL {
		t.Errorf("%d: %v: %v", pid, r, x)
	}
	return x.Err == api.EWAIT || x.Err == api.EAGAIN
}

// reads and writes are the descriptors of pipes and joined sockets which can be read, and written, now or later.
var (
	reads  = []int{emptyR, someR, fullR, quietR, stuckR, endR, leftR, lastR}
	writes = []int{emptyW, someW, fullW, quietW, stuckW, deafW, spiltW}
	joined = []int{client, one, two, given, giver, full, filler, parts, parter, quiet, quieter, left, alone, shutR, talks, shutW, hears, shutB, silent, heard, said}
)

// P23.4: of each descriptor of a pipe and of a joined socket read and write of a byte wait just where it is said that it can't be read, and written; receiving and sending, too.
func TestAsItSays(t *testing.T) {
	for _, pid := range holders {
		try := func(fd int, what string, r api.Req) {
			t.Helper()
			w := scene(t)
			if says := !strings.Contains(ready(w, pid, fd), what); waits(t, w, pid, r) != says {
				t.Errorf("%d: %v waits: %t", pid, r, !says)
			}
		}
		for _, fd := range append(reads, joined...) {
			try(fd, "r", on(read, fd, 1, ""))
		}
		for _, fd := range append(writes, joined...) {
			try(fd, "w", on(write, fd, 0, "x"))
		}
		for _, fd := range joined {
			try(fd, "r", on(recv, fd, 1, ""))
			try(fd, "w", on(send, fd, 0, "x"))
		}
	}
}
