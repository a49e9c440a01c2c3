package world

import (
	"fmt"
	"math"
	"slices"
	"testing"

	"purlieu/api"
	"purlieu/ring"
	tables "purlieu/slots"
)

// some are limits such as come; each one differs from the others.
var some = api.Limits{Procs: 5, Fds: 8, Files: 12, Inodes: 10, Blocks: 7, Pipe: 6, Sock: 16}

// full is a descriptor that may do all.
var full = tables.Full(1)

// less is a descriptor with two rights, and less than all commands.
var less = api.Slot{File: 1, Rights: api.CapRead | api.CapIoctl | api.CapFcntl, Ioctls: api.List{L: []int{1, 3}}, Fcntls: api.FcntlGetfl}

// nobody are numbers that no process, no pipe and no open file of these tests ever has.
var nobody = []int{0, -1, -2, 63, 64, math.MaxInt32, math.MinInt32, math.MaxInt, math.MinInt}

// made answers a world with these limits.
func made(t *testing.T, l api.Limits) *World {
	t.Helper()
	w := New(l)
	if w == nil {
		t.Fatalf("New(%v): nil", l)
	}
	return w
}

// tells says which error a call told.
func tells(t *testing.T, what string, got, want api.Errno) {
	t.Helper()
	if got != want {
		t.Errorf("%s: %d, not %d", what, got, want)
	}
}

// opens opens a file, whose descriptor has that number, and answers the number of the open file.
func opens(t *testing.T, w *World, pid, kind, obj, flags, want int) int {
	t.Helper()
	id := w.Files().Numbers()
	if fd := w.Open(pid, kind, obj, flags, full); fd != want {
		t.Fatalf("Open(%d, %d, %d, %d): %d, not %d", pid, kind, obj, flags, fd, want)
	}
	return id
}

// dup dups a descriptor to the first free number, which is that.
func dup(t *testing.T, w *World, pid, fd, want int) {
	t.Helper()
	if to, e := w.Dup(pid, fd, 0); to != want || e != api.OK {
		t.Fatalf("Dup(%d, %d, 0): %d %d, not %d", pid, fd, to, e, want)
	}
}

// closes closes descriptors of a process.
func closes(t *testing.T, w *World, pid int, fds ...int) {
	t.Helper()
	for _, fd := range fds {
		tells(t, fmt.Sprintf("Close(%d, %d)", pid, fd), w.Close(pid, fd), api.OK)
	}
}

// forks forks a process, whose child has that number.
func forks(t *testing.T, w *World, pid, want int) {
	t.Helper()
	if child, e := w.Fork(pid, false); child != want || e != api.OK {
		t.Fatalf("Fork(%d): %d %d, not %d", pid, child, e, want)
	}
}

// passes answers a descriptor as it is passed.
func passes(t *testing.T, w *World, pid, fd int) api.Passed {
	t.Helper()
	p, e := w.Pass(pid, fd)
	if e != api.OK {
		t.Fatalf("Pass(%d, %d): %d", pid, fd, e)
	}
	return p
}

// sends passes descriptors of the process 1 through a socket, with one byte.
func sends(t *testing.T, w *World, sock int, fds ...int) {
	t.Helper()
	var l []api.Passed
	for _, fd := range fds {
		l = append(l, passes(t, w, 1, fd))
	}
	if n, e := w.Socks().Send(sock, []byte("x"), l); n != 1 || e != api.OK {
		t.Fatalf("Send(%d): %d %d", sock, n, e)
	}
}

// creates makes an entry of the root, whose inode has that number.
func creates(t *testing.T, w *World, name string, kind, want int) {
	t.Helper()
	if ino, e := w.FS().Create(1, name, kind, ""); ino != want || e != api.OK {
		t.Fatalf("Create(%s): %d %d, not %d", name, ino, e, want)
	}
}

// named says how many name an open file; of 0 that it is gone.
func named(t *testing.T, w *World, what string, id, refs int) {
	t.Helper()
	if f, ok := w.Files().Get(id); f.Refs != refs || ok != (refs > 0) {
		t.Errorf("%s: %d are named %v %v, not by %d", what, id, f, ok, refs)
	}
}

// held says how many holds an inode has; of -1 that it is gone.
func held(t *testing.T, w *World, what string, ino, holds int) {
	t.Helper()
	st, e := w.FS().Stat(ino)
	if gone := e == api.ENOENT; gone != (holds < 0) || !gone && st.Holds != holds {
		t.Errorf("%s: the inode %d is %v %d, not held by %d", what, ino, st, e, holds)
	}
}

// ends says which ends of a pipe are open, what is in it, and that it is gone where neither is.
func ends(t *testing.T, w *World, what string, id int, reads, writes bool, b string) {
	t.Helper()
	if r, s := w.Ends(id); r != reads || s != writes {
		t.Errorf("%s: Ends(%d): %v %v, not %v %v", what, id, r, s, reads, writes)
	}
	r := w.Ring(id)
	if (r != nil) != (reads || writes) || string(r.Peek(99)) != b {
		t.Errorf("%s: Ring(%d): %q %v, not %q", what, id, r.Peek(99), r != nil, b)
	}
	at := slices.IndexFunc(w.Dump().Pipes, func(p api.Pipe) bool { return p.ID == id })
	if (at >= 0) != (reads || writes) {
		t.Fatalf("%s: Dump tells the pipes %v", what, w.Dump().Pipes)
	}
	if at >= 0 && w.Dump().Pipes[at] != (api.Pipe{ID: id, Reads: reads, Writes: writes, B: b}) {
		t.Errorf("%s: Dump tells %v", what, w.Dump().Pipes[at])
	}
}

// fds says which descriptors a process has.
func fds(t *testing.T, w *World, what string, pid int, want ...int) {
	t.Helper()
	if got := w.Slots(pid).All(); !slices.Equal(got, want) {
		t.Errorf("%s: the descriptors of %d are %v, not %v", what, pid, got, want)
	}
}

// gone says that a process is not there any more.
func gone(t *testing.T, w *World, what string, pid int) {
	t.Helper()
	if p, ok := w.Procs().Get(pid); ok {
		t.Errorf("%s: %v is there", what, p)
	}
}

// all tells a world as a text.
func all(w *World) string { return fmt.Sprintf("%+v", w.Dump()) }

// stays says that what is done changes nothing.
func stays(t *testing.T, w *World, what string, do func()) {
	t.Helper()
	was := all(w)
	do()
	if now := all(w); now != was {
		t.Errorf("%s changes\n%s\nto\n%s", what, was, now)
	}
}

// P17.1, P17.8: a new world has one process, in the root, and nothing else.
func TestNew(t *testing.T) {
	w := made(t, some)
	want := api.Dump{
		Procs:  []api.Proc{{Pid: 1, Lives: true, Cwd: 1}},
		Inodes: []api.Inode{{Ino: 1, Kind: api.KDir, Holds: 2, Parent: 1}},
		Next:   [5]int{2, 1, 1, 1, 2},
	}
	if got := all(w); got != fmt.Sprintf("%+v", want) {
		t.Error(got)
	}
	if w.Limits() != some {
		t.Error(w.Limits())
	}
	inodes, blocks := w.FS().Room()
	if w.Procs().Room() != 4 || w.Slots(1).Room() != 8 || w.Files().Room() != 12 || inodes != 9 || blocks != 7 {
		t.Error(w.Procs().Room(), w.Slots(1).Room(), w.Files().Room(), inodes, blocks)
	}
	if w.Ring(w.Pipe()).Room() != 6 {
		t.Error("pipe")
	}
	a, b := w.Socks().Pair()
	if n, e := w.Socks().Send(a, make([]byte, 17), nil); n != 16 || e != api.OK || w.Socks().Len(b) != 16 {
		t.Error(n, e)
	}
}

// P17.1: the process 1 is in the root with a hold of its own, so that it can leave it and come back.
func TestRootIsHeldOnceMore(t *testing.T) {
	w := made(t, some)
	creates(t, w, "d", api.KDir, 2)
	held(t, w, "new", 1, 2)
	tells(t, "Move", w.Move(1, 2), api.OK)
	held(t, w, "left", 1, 1)
	held(t, w, "come to", 2, 1)
	tells(t, "Move", w.Move(1, 1), api.OK)
	held(t, w, "come back", 1, 2)
	held(t, w, "left", 2, 0)
}

// P17.1: each limit can be what its table can be, from the least to the greatest; beyond each of both, alone, there is no world.
func TestNewWrong(t *testing.T) {
	of := func(set func(l *api.Limits, n int)) func(n int) *World {
		return func(n int) *World {
			l := some
			set(&l, n)
			return New(l)
		}
	}
	rows := []struct {
		name        string
		least, most int
		try         func(n int) *World
	}{
		{"Procs", 1, 64, of(func(l *api.Limits, n int) { l.Procs = n })},
		{"Fds", 1, 64, of(func(l *api.Limits, n int) { l.Fds = n })},
		{"Files", 1, 256, of(func(l *api.Limits, n int) { l.Files = n })},
		{"Inodes", 1, 256, of(func(l *api.Limits, n int) { l.Inodes = n })},
		{"Blocks", 0, 4096, of(func(l *api.Limits, n int) { l.Blocks = n })},
		{"Pipe", 1, 4096, of(func(l *api.Limits, n int) { l.Pipe = n })},
		{"Sock", 1, 4096, of(func(l *api.Limits, n int) { l.Sock = n })},
	}
	for _, row := range rows {
		for _, n := range []int{row.least, row.least + 1, row.most - 1, row.most} {
			if row.try(n) == nil {
				t.Errorf("%s of %d: nil", row.name, n)
			}
		}
		for _, n := range []int{row.least - 1, row.most + 1, -64, 100000, math.MaxInt, math.MinInt} {
			if row.try(n) != nil {
				t.Errorf("%s of %d: a world", row.name, n)
			}
		}
	}
	if New(api.Limits{}) != nil {
		t.Error("no limits: a world")
	}
}

// P17.1: the least and the greatest world have the room that their limits say.
func TestLeastAndGreatest(t *testing.T) {
	w := made(t, api.Limits{Procs: 1, Fds: 1, Files: 1, Inodes: 1, Blocks: 0, Pipe: 1, Sock: 1})
	p := w.Pipe()
	opens(t, w, 1, api.KPipe, p, 0, 0)
	for _, flags := range []int{0, api.OWrite} {
		if fd := w.Open(1, api.KPipe, p, flags, full); fd != -1 {
			t.Error(fd)
		}
	}
	if child, e := w.Fork(1, false); child != 0 || e != api.EAGAIN {
		t.Error(child, e)
	}
	l := api.Limits{Procs: 64, Fds: 64, Files: 256, Inodes: 256, Blocks: 4096, Pipe: 4096, Sock: 4096}
	w = made(t, l)
	for pid := 2; pid <= 64; pid++ {
		forks(t, w, pid-1, pid)
	}
	for n := range 256 {
		pid := 1 + n/64
		opens(t, w, pid, api.KDir, 1, 0, n%64)
	}
	tells(t, "Fits", w.Fits(5, 64, 0), api.OK)
	tells(t, "Fits", w.Fits(5, 1, 1), api.ENFILE)
	held(t, w, "full", 1, 64+256+1)
	for pid := 2; pid <= 64; pid++ {
		tells(t, "End", w.End(pid, 0), api.OK)
	}
	held(t, w, "ended", 1, 1+64+1)
}

// P17.1: the descriptors of whoever lives, and nil of all others.
func TestSlots(t *testing.T) {
	w := made(t, some)
	forks(t, w, 1, 2)
	forks(t, w, 1, 3)
	opens(t, w, 2, api.KDir, 1, 0, 0)
	fds(t, w, "opened", 2, 0)
	fds(t, w, "not opened", 1)
	if w.Slots(1) == nil || w.Slots(1) == w.Slots(2) || w.Slots(2) != w.Slots(2) || w.Slots(2).Room() != 7 {
		t.Error("not their own")
	}
	for _, pid := range append(nobody, 4) {
		if w.Slots(pid) != nil {
			t.Errorf("Slots(%d): not nil", pid)
		}
	}
	was := w.Slots(2)
	tells(t, "End", w.End(2, 0), api.OK)
	if w.Slots(2) != nil || len(was.All()) != 0 {
		t.Error("ended: not nil")
	}
	w.Procs().Wait(1, 0)
	if w.Slots(2) != nil || w.Slots(3) == nil {
		t.Error("reaped")
	}
	w.Procs().Exit(3, 0)
	if w.Slots(3) != nil {
		t.Error("ended by the table of processes: not nil")
	}
}

// P17.1: what is changed in the tables themselves is changed.
func TestTablesAreTheWorldsOwn(t *testing.T) {
	w := made(t, some)
	creates(t, w, "f", api.KFile, 2)
	id := opens(t, w, 1, api.KFile, 2, api.OBoth, 0)
	tells(t, "Limit", w.Slots(1).Limit(0, api.CapRead), api.OK)
	tells(t, "Seek", w.Files().Seek(id, 3), api.OK)
	tells(t, "Write", w.FS().Write(2, 0, []byte("ab")), api.OK)
	tells(t, "Enter", w.Procs().Enter(1), api.OK)
	s, f, e := w.Look(1, 0, 0)
	if e != api.OK || s.Rights != api.CapRead || s.Fcntls != 0 || f.Off != 3 {
		t.Error(s, f, e)
	}
	if d := w.Dump(); d.Inodes[1].Text != "ab" || !d.Procs[0].Cap {
		t.Error(all(w))
	}
	if w.FS() != w.FS() || w.Socks() != w.Socks() || w.Files() != w.Files() || w.Procs() != w.Procs() {
		t.Error("not the same ones")
	}
}

// P17.1: Fits up to the last free descriptor, and the last open file there is room for; its first error comes first.
func TestFits(t *testing.T) {
	w := made(t, some)
	for used := range 9 {
		for n := -1; n <= 13; n++ {
			wantFds, wantFiles := api.OK, api.OK
			if n > 8-used {
				wantFds = api.EMFILE
			}
			if n > 12-used {
				wantFiles = api.ENFILE
			}
			tells(t, fmt.Sprint("descriptors, of ", used, ": ", n), w.Fits(1, n, 0), wantFds)
			tells(t, fmt.Sprint("open files, of ", used, ": ", n), w.Fits(1, 0, n), wantFiles)
		}
		tells(t, "both", w.Fits(1, 9-used, 13-used), api.EMFILE)
		if used < 8 {
			opens(t, w, 1, api.KDir, 1, 0, used)
		}
	}
	tells(t, "least", w.Fits(1, math.MinInt, math.MinInt), api.OK)
	tells(t, "greatest", w.Fits(1, 0, math.MaxInt), api.ENFILE)
	tells(t, "greatest", w.Fits(1, math.MaxInt, math.MaxInt), api.EMFILE)
	forks(t, w, 1, 2)
	tells(t, "End", w.End(2, 0), api.OK)
	for _, pid := range append(nobody, 2, 3) {
		tells(t, "nobody", w.Fits(pid, 0, 0), api.ESRCH)
		tells(t, "nobody", w.Fits(pid, 9, 13), api.ESRCH)
	}
}

// P17.2: an open file of each kind; its descriptor has the rights and whitelists that are asked for, whichever open file these are of.
func TestOpen(t *testing.T) {
	w := made(t, some)
	for i, kind := range []int{api.KFile, api.KDir, api.KPipe, api.KSock, api.KProc} {
		like := less
		like.File = 70 + i
		if fd := w.Open(1, kind, 9, api.ONonblock, like); fd != i {
			t.Errorf("Open of %d: %d, not %d", kind, fd, i)
		}
		s, f, e := w.Look(1, i, api.CapRead)
		want := less
		want.File = i + 1
		if e != api.OK || fmt.Sprint(s) != fmt.Sprint(want) || f != (api.File{ID: i + 1, Kind: kind, Obj: 9, Flags: api.ONonblock, Refs: 1}) {
			t.Error(s, f, e)
		}
	}
}

// P17.2: that like is of no open file plays no part, nor that it is of one that is there.
func TestOpenLikeNothing(t *testing.T) {
	w := made(t, some)
	for i, file := range []int{0, -1, 1, math.MaxInt, math.MinInt} {
		if fd := w.Open(1, api.KDir, 1, 0, api.Slot{File: file}); fd != i {
			t.Errorf("like of %d: %d, not %d", file, fd, i)
		}
		if s, f, e := w.Look(1, i, 0); s.File != i+1 || f.ID != i+1 || f.Refs != 1 || s.Rights != 0 || e != api.OK {
			t.Error(s, f, e)
		}
	}
}

// P17.2: flags beyond those that stay are cut off, whatever they are; both of the lowest two are wrong.
func TestOpenFlags(t *testing.T) {
	for flags := range 16 {
		for _, beyond := range []int{0, api.ONofollow, api.OCreat, api.OTrunc | api.OExcl, api.ODirectory, 16, 32, 64, 128, math.MaxInt &^ 15, math.MinInt, -16} {
			w := made(t, some)
			want := 0
			if flags&3 == 3 {
				want = -1
			}
			if fd := w.Open(1, api.KFile, 1, flags|beyond, full); fd != want {
				t.Errorf("flags %d and %d: %d, not %d", flags, beyond, fd, want)
			}
			if f, ok := w.Files().Get(1); f.Flags != flags && want == 0 || ok != (want == 0) {
				t.Errorf("flags %d and %d: %v %v", flags, beyond, f, ok)
			}
		}
	}
}

// P17.2: what can't be opened is -1, and nothing is done: no number is gone, and no hold is there.
func TestOpenWrong(t *testing.T) {
	w := made(t, some)
	forks(t, w, 1, 2)
	tells(t, "End", w.End(2, 0), api.OK)
	try := func(what string, pid, kind, obj, flags int, like api.Slot) {
		t.Helper()
		stays(t, w, what, func() {
			if fd := w.Open(pid, kind, obj, flags, like); fd != -1 {
				t.Errorf("%s: %d", what, fd)
			}
		})
	}
	for _, pid := range append(nobody, 2, 3) {
		try("nobody", pid, api.KDir, 1, 0, full)
	}
	for _, kind := range []int{0, api.KSymlink, api.KBound, 8, -1, math.MaxInt, math.MinInt} {
		try("no kind", 1, kind, 1, 0, full)
	}
	for _, kind := range []int{api.KFile, api.KDir, api.KPipe, api.KSock, api.KProc} {
		for _, obj := range []int{0, -1, math.MinInt} {
			try("no number", 1, kind, obj, 0, full)
		}
		try("both ways", 1, kind, 1, api.OWrite|api.OBoth, full)
	}
	for _, l := range []api.List{{All: true, L: []int{1}}, {L: []int{2, 1}}, {L: []int{1, 1}}, {L: []int{-1}}, {L: rising(33)}} {
		try("no whitelist", 1, api.KDir, 1, 0, api.Slot{File: 1, Ioctls: l})
	}
	for _, mask := range []int{1, 2, 4, 128, api.FcntlAll + 1, -1, math.MinInt, math.MaxInt} {
		try("no command of fcntl", 1, api.KDir, 1, 0, api.Slot{File: 1, Fcntls: mask})
	}
	if fd := w.Open(1, api.KDir, 1, 0, api.Slot{Ioctls: api.List{L: rising(32)}, Fcntls: api.FcntlAll}); fd != 0 {
		t.Error("the greatest whitelist:", fd)
	}
}

// rising answers n numbers from 0 on.
func rising(n int) []int {
	var l []int
	for i := range n {
		l = append(l, i)
	}
	return l
}

// P17.2: the last free descriptor, and the last open file, can still be had; none beyond them.
func TestOpenFull(t *testing.T) {
	w := made(t, some)
	for i := range 7 {
		opens(t, w, 1, api.KDir, 1, 0, i)
	}
	forks(t, w, 1, 2)
	closes(t, w, 1, 3)
	opens(t, w, 1, api.KDir, 1, 0, 3)
	opens(t, w, 1, api.KDir, 1, 0, 7)
	stays(t, w, "no descriptor", func() {
		if fd := w.Open(1, api.KDir, 1, 0, full); fd != -1 {
			t.Error(fd)
		}
	})
	closes(t, w, 2, 4, 5, 6)
	forks(t, w, 1, 3)
	closes(t, w, 3, 0, 1, 2, 3)
	opens(t, w, 3, api.KDir, 1, 0, 0)
	opens(t, w, 3, api.KDir, 1, 0, 1)
	opens(t, w, 3, api.KDir, 1, 0, 2)
	tells(t, "Fits", w.Fits(3, 1, 1), api.ENFILE)
	stays(t, w, "no open file", func() {
		if fd := w.Open(3, api.KDir, 1, 0, full); fd != -1 {
			t.Error(fd)
		}
	})
	closes(t, w, 3, 1)
	opens(t, w, 3, api.KDir, 1, 0, 1)
	if fd := w.Open(3, api.KDir, 1, 0, full); fd != -1 {
		t.Error("beyond the last open file:", fd)
	}
}

// P17.2, P17.4: what is open of an inode holds it, also without a link, until nobody names it.
func TestOpenHolds(t *testing.T) {
	w := made(t, some)
	creates(t, w, "f", api.KFile, 2)
	creates(t, w, "d", api.KDir, 3)
	tells(t, "Write", w.FS().Write(2, 0, []byte("abc")), api.OK)
	opens(t, w, 1, api.KFile, 2, 0, 0)
	opens(t, w, 1, api.KFile, 2, api.OWrite, 1)
	opens(t, w, 1, api.KDir, 3, 0, 2)
	dup(t, w, 1, 1, 3)
	held(t, w, "opened twice, and dupped", 2, 2)
	held(t, w, "opened", 3, 1)
	tells(t, "Unlink", w.FS().Unlink(1, "f"), api.OK)
	tells(t, "Rmdir", w.FS().Rmdir(1, "d"), api.OK)
	closes(t, w, 1, 1)
	held(t, w, "closed one of three", 2, 2)
	closes(t, w, 1, 3, 2)
	held(t, w, "closed two of three", 2, 1)
	held(t, w, "closed", 3, -1)
	if b, e := w.FS().Read(2, 0, 9); string(b) != "abc" || e != api.OK {
		t.Error(b, e)
	}
	closes(t, w, 1, 0)
	held(t, w, "closed", 2, -1)
	if inodes, blocks := w.FS().Room(); inodes != 9 || blocks != 7 {
		t.Error("room for", inodes, blocks)
	}
	for fd := range 3 {
		opens(t, w, 1, api.KDir, 1, 0, fd)
	}
	held(t, w, "the root", 1, 5)
	closes(t, w, 1, 0, 1, 2)
	held(t, w, "the root", 1, 2)
}

// P17.2: only what is open of an inode holds one, not what is open of other things with that number.
func TestOpenOfOthersHoldsNothing(t *testing.T) {
	w := made(t, some)
	for fd, kind := range []int{api.KPipe, api.KSock, api.KProc} {
		opens(t, w, 1, kind, 1, 0, fd)
	}
	held(t, w, "opened", 1, 2)
	closes(t, w, 1, 0, 1, 2)
	held(t, w, "closed", 1, 2)
}

// P17.2, P17.9: of an inode that is not there nothing is held; and if one with that number is made later, it loses no hold with what was opened before.
func TestOpenOfNoInode(t *testing.T) {
	for _, kind := range []int{api.KFile, api.KDir} {
		w := made(t, some)
		before := opens(t, w, 1, kind, 2, 0, 0)
		creates(t, w, "f", api.KFile, 2)
		held(t, w, "made later", 2, 0)
		opens(t, w, 1, kind, 2, 0, 1)
		held(t, w, "opened", 2, 1)
		closes(t, w, 1, 0)
		named(t, w, "closed", before, 0)
		held(t, w, "the one from before closed", 2, 1)
		tells(t, "Unlink", w.FS().Unlink(1, "f"), api.OK)
		held(t, w, "unlinked", 2, 0+1)
		closes(t, w, 1, 1)
		held(t, w, "closed", 2, -1)
	}
}

// P17.3: pipes have numbers from 1 on, empty, with both ends open, and each a buffer of its own.
func TestPipe(t *testing.T) {
	w := made(t, some)
	for id := 1; id <= 5; id++ {
		if n := w.Pipe(); n != id {
			t.Fatalf("Pipe: %d, not %d", n, id)
		}
		ends(t, w, "new", id, true, true, "")
		if w.Ring(id).Room() != 6 || w.Dump().Next[2] != id+1 {
			t.Error(w.Ring(id).Room(), w.Dump().Next)
		}
		w.Ring(id).Put([]byte{byte('a' + id)})
	}
	for id := 1; id <= 5; id++ {
		ends(t, w, "filled", id, true, true, string(rune('a'+id)))
	}
	for _, id := range append(nobody, 6) {
		ends(t, w, "none", id, false, false, "")
	}
}

// P17.3: no number of a pipe comes twice.
func TestPipeNumbers(t *testing.T) {
	w := made(t, some)
	for id := 1; id <= 40; id++ {
		if n := w.Pipe(); n != id {
			t.Fatalf("Pipe: %d, not %d", n, id)
		}
		opens(t, w, 1, api.KPipe, id, 0, 0)
		opens(t, w, 1, api.KPipe, id, api.OWrite, 1)
		closes(t, w, 1, 0, 1)
		ends(t, w, "closed", id, false, false, "")
	}
	if d := w.Dump(); len(d.Pipes) != 0 || d.Next[2] != 41 {
		t.Error(d)
	}
}

// P17.3: which end an open file is of is told by OWrite alone.
func TestWhichEnd(t *testing.T) {
	for flags := range 16 {
		if flags&3 == 3 {
			continue
		}
		w := made(t, some)
		p := w.Pipe()
		w.Ring(p).Put([]byte("ab"))
		opens(t, w, 1, api.KPipe, p, flags, 0)
		closes(t, w, 1, 0)
		if flags&api.OWrite != 0 {
			ends(t, w, "the writing end", p, true, false, "ab")
		} else {
			ends(t, w, "the reading end", p, false, true, "")
		}
	}
}

// piped answers a world with a pipe with bytes in it, whose ends are the descriptors 0 (reading) and 1 (writing) of 1, and its number.
func piped(t *testing.T) (*World, int) {
	t.Helper()
	w := made(t, some)
	p := w.Pipe()
	w.Ring(p).Put([]byte("abc"))
	opens(t, w, 1, api.KPipe, p, 0, 0)
	opens(t, w, 1, api.KPipe, p, api.OWrite, 1)
	return w, p
}

// namings are ways in which an end of a pipe, the descriptor fd of piped, is named a second time, and not its other end; each answers how that is let go.
func namings(t *testing.T) map[string]func(w *World, fd int) func() {
	child := func(w *World, fd int) int {
		child, e := w.Fork(1, true)
		tells(t, "Fork", e, api.OK)
		closes(t, w, child, 1-fd)
		return child
	}
	return map[string]func(w *World, fd int) func(){
		"dup": func(w *World, fd int) func() {
			to, e := w.Dup(1, fd, 5)
			tells(t, "Dup", e, api.OK)
			return func() { closes(t, w, 1, to) }
		},
		"onto": func(w *World, fd int) func() {
			tells(t, "Onto", w.Onto(1, fd, 7), api.OK)
			opens(t, w, 1, api.KDir, 1, 0, 2)
			return func() { tells(t, "Onto", w.Onto(1, 2, 7), api.OK) }
		},
		"fork": func(w *World, fd int) func() {
			child := child(w, fd)
			return func() { closes(t, w, child, fd) }
		},
		"a child that ends": func(w *World, fd int) func() {
			child := child(w, fd)
			return func() { tells(t, "End", w.End(child, 0), api.OK) }
		},
		"a child that is ended": func(w *World, fd int) func() {
			child := child(w, fd)
			opens(t, w, 1, api.KProc, child, 0, 2)
			return func() { closes(t, w, 1, 2) }
		},
		"passed": func(w *World, fd int) func() {
			p := passes(t, w, 1, fd)
			return func() { w.Drop([]api.Passed{p}) }
		},
		"given": func(w *World, fd int) func() {
			to := w.Give(1, passes(t, w, 1, fd))
			return func() { closes(t, w, 1, to) }
		},
		"sent": func(w *World, fd int) func() {
			a, b := w.Socks().Pair()
			opens(t, w, 1, api.KSock, b, api.OBoth, 2)
			sends(t, w, a, fd)
			return func() { closes(t, w, 1, 2) }
		},
	}
}

// P17.4: the last one of a pipe's reading ends, of its writing ends, and of both, each named twice.
func TestPipeEnds(t *testing.T) {
	for name, twice := range namings(t) {
		w, p := piped(t)
		let := twice(w, 0)
		closes(t, w, 1, 0)
		ends(t, w, name+": one of two reading ends let go", p, true, true, "abc")
		let()
		ends(t, w, name+": both", p, false, true, "")
		closes(t, w, 1, 1)
		ends(t, w, name+": and the writing end", p, false, false, "")

		w, p = piped(t)
		let = twice(w, 1)
		closes(t, w, 1, 1)
		ends(t, w, name+": one of two writing ends let go", p, true, true, "abc")
		let()
		ends(t, w, name+": both", p, true, false, "abc")
		closes(t, w, 1, 0)
		ends(t, w, name+": and the reading end", p, false, false, "")

		for fd := range 2 {
			w, p = piped(t)
			let = twice(w, fd)
			closes(t, w, 1, 1-fd)
			ends(t, w, name+": the other end let go", p, fd == 0, fd == 1, []string{"abc", ""}[fd])
			closes(t, w, 1, fd)
			ends(t, w, name+": and one of two", p, fd == 0, fd == 1, []string{"abc", ""}[fd])
			let()
			ends(t, w, name+": and the last one", p, false, false, "")
		}
	}
}

// P17.4: a pipe's bytes are gone with its reading end, also for who has the buffer, and stay without its writing end; other pipes keep theirs.
func TestPipeBytes(t *testing.T) {
	w := made(t, some)
	p, other := w.Pipe(), w.Pipe()
	r := w.Ring(p)
	r.Put([]byte("abc"))
	w.Ring(other).Put([]byte("de"))
	opens(t, w, 1, api.KPipe, p, api.OWrite, 0)
	opens(t, w, 1, api.KPipe, p, 0, 1)
	closes(t, w, 1, 1)
	ends(t, w, "no reading end", p, false, true, "")
	if r.Len() != 0 || w.Ring(p) != r {
		t.Error(r.Len())
	}
	closes(t, w, 1, 0)
	ends(t, w, "no end", p, false, false, "")
	ends(t, w, "the other one", other, true, true, "de")
	opens(t, w, 1, api.KPipe, other, api.OWrite, 0)
	closes(t, w, 1, 0)
	ends(t, w, "the other one without a writing end", other, true, false, "de")
}

// P17.4: what is open of a thing that is not there is closed like all else.
func TestCloseOfNothing(t *testing.T) {
	for _, kind := range []int{api.KFile, api.KDir, api.KPipe, api.KSock, api.KProc} {
		for _, obj := range []int{2, 9, 64, math.MaxInt} {
			w := made(t, some)
			w.Pipe()
			w.Socks().Make()
			id := opens(t, w, 1, kind, obj, 0, 0)
			closes(t, w, 1, 0)
			named(t, w, "closed", id, 0)
			d := w.Dump()
			if len(d.Procs) != 1 || len(d.Inodes) != 1 || len(d.Pipes) != 1 || len(d.Socks) != 1 || len(d.Held) != 0 {
				t.Error(all(w))
			}
		}
	}
}

// pair opens the two ends of a pair of sockets as the process 1's descriptors fd and fd + 1, and answers their numbers.
func pair(t *testing.T, w *World, fd int) (int, int) {
	t.Helper()
	a, b := w.Socks().Pair()
	opens(t, w, 1, api.KSock, a, api.OBoth, fd)
	opens(t, w, 1, api.KSock, b, api.OBoth, fd+1)
	return a, b
}

// The example: a pair of sockets, one passed through the other one: closed both, the one that waits is named by one, and stays.
func TestExample(t *testing.T) {
	w := made(t, some)
	a, b := pair(t, w, 0)
	sends(t, w, a, 1) // b waits in itself
	closes(t, w, 1, 0, 1)
	named(t, w, "a", 1, 0)
	named(t, w, "b", 2, 1)
	if w.Socks().State(a) != -1 || w.Socks().State(b) != api.SockJoined {
		t.Error(w.Socks().State(a), w.Socks().State(b))
	}
	w = made(t, some)
	a, b = pair(t, w, 0)
	sends(t, w, a, 0) // a waits in b
	closes(t, w, 1, 0)
	named(t, w, "a", 1, 1)
	closes(t, w, 1, 1)
	named(t, w, "a", 1, 0)
	if d := w.Dump(); len(d.Socks) != 0 || len(d.Files) != 0 {
		t.Error(all(w))
	}
}

// P17.4: what waits in a closed socket is dropped; what it was open of goes with it.
func TestClosedSocket(t *testing.T) {
	w := made(t, some)
	a, _ := pair(t, w, 0)
	creates(t, w, "f", api.KFile, 2)
	p := w.Pipe()
	file := opens(t, w, 1, api.KFile, 2, 0, 2)
	reading := opens(t, w, 1, api.KPipe, p, 0, 3)
	writing := opens(t, w, 1, api.KPipe, p, api.OWrite, 4)
	w.Ring(p).Put([]byte("abc"))
	sends(t, w, a, 2, 3)
	sends(t, w, a, 3, 4)
	closes(t, w, 1, 2, 3)
	named(t, w, "sent", file, 1)
	named(t, w, "sent twice", reading, 2)
	named(t, w, "sent, not closed", writing, 2)
	tells(t, "Unlink", w.FS().Unlink(1, "f"), api.OK)
	held(t, w, "sent", 2, 1)
	closes(t, w, 1, 0)
	named(t, w, "the other end closed", file, 1)
	closes(t, w, 1, 1)
	named(t, w, "closed", file, 0)
	held(t, w, "closed", 2, -1)
	named(t, w, "closed", reading, 0)
	named(t, w, "closed", writing, 1)
	ends(t, w, "closed", p, false, true, "")
}

// P17.4: a socket that listens goes with those that wait at it, and what waits in these.
func TestClosedDoor(t *testing.T) {
	w := made(t, some)
	door := w.Socks().Make()
	tells(t, "Bind", w.Socks().Bind(door, 5), api.OK)
	tells(t, "Listen", w.Socks().Listen(door, 8), api.OK)
	opens(t, w, 1, api.KSock, door, api.OBoth, 0)
	for i := range 3 {
		x := w.Socks().Make()
		opens(t, w, 1, api.KSock, x, api.OBoth, 1+i)
		tells(t, "Connect", w.Socks().Connect(x, door), api.OK)
		sends(t, w, x, 1+i)
	}
	closes(t, w, 1, 1, 2)
	named(t, w, "waits at the door, closed", 2, 1)
	named(t, w, "waits at the door", 4, 2)
	closes(t, w, 1, 0)
	for id, refs := range []int{0, 0, 0, 1} {
		named(t, w, "the door closed", 1+id, refs)
	}
	if l := w.Dump().Socks; len(l) != 1 || l[0].Peer != 0 {
		t.Error(l)
	}
}

// P17.4: a row of sockets, each of which waits in the one ahead of it alone, goes as a whole, however long it is.
func TestRowOfSockets(t *testing.T) {
	l := some
	l.Files, l.Fds = 256, 64
	w := made(t, l)
	a, _ := pair(t, w, 0)
	closes(t, w, 1, 0)
	opens(t, w, 1, api.KSock, a, api.OBoth, 0)
	a, b := w.Socks().Pair()
	opens(t, w, 1, api.KSock, b, api.OBoth, 2)
	first := b
	for range 251 {
		c, d := w.Socks().Pair()
		opens(t, w, 1, api.KSock, d, api.OBoth, 3)
		sends(t, w, a, 3)
		closes(t, w, 1, 3)
		a = c
	}
	if n := w.Files().Room(); n != 256-254 {
		t.Fatal(n)
	}
	if w.Socks().State(first) != api.SockJoined {
		t.Fatal("gone")
	}
	closes(t, w, 1, 2)
	if n := w.Files().Room(); n != 256-2 {
		t.Error("there are still", 256-n)
	}
}

// P17.4: a socket in which it waits itself goes once, whoever named it last.
func TestSocketInItself(t *testing.T) {
	w := made(t, some)
	a, b := pair(t, w, 0)
	second := opens(t, w, 1, api.KSock, b, api.OBoth, 2)
	sends(t, w, a, 1, 1, 2)
	named(t, w, "sent twice", 2, 3)
	closes(t, w, 1, 1)
	named(t, w, "sent twice, closed", 2, 2)
	w.Drop([]api.Passed{{File: second}})
	named(t, w, "one still waits", second, 1)
	closes(t, w, 1, 2)
	for id := 2; id <= 3; id++ {
		named(t, w, "closed", id, 0)
	}
	if l := w.Dump().Socks; len(l) != 1 || l[0].ID != a || l[0].Peer != 0 {
		t.Error(l)
	}
}

// P17.4: the last descriptor of a process, in another one's hands: it ends with 137, and is reaped at once; what it has goes, and its children go to 1.
func TestLastOfAProcess(t *testing.T) {
	w := made(t, some)
	creates(t, w, "d", api.KDir, 2)
	child, e := w.Fork(1, true)
	if child != 2 || e != api.OK {
		t.Fatal(child, e)
	}
	opens(t, w, 1, api.KProc, 2, 0, 0)
	dup(t, w, 1, 0, 1)
	file := opens(t, w, 2, api.KFile, 2, 0, 0)
	tells(t, "Move", w.Move(2, 2), api.OK)
	forks(t, w, 2, 3)
	w.Park(2, api.Req{No: 3})
	w.Park(3, api.Req{No: 4})
	closes(t, w, 1, 0)
	if !w.Procs().Lives(2) {
		t.Fatal("one of two closed: it ended")
	}
	named(t, w, "one of two closed", file, 2)
	closes(t, w, 1, 1)
	gone(t, w, "closed", 2)
	named(t, w, "closed", 1, 0)
	named(t, w, "closed", file, 1)
	held(t, w, "closed", 2, 2)
	if p, _ := w.Procs().Get(3); p.Parent != 1 || !p.Lives {
		t.Error(p)
	}
	if l := w.Dump().Parks; len(l) != 1 || l[0].Pid != 3 {
		t.Error(l)
	}
	if w.Procs().Room() != 3 {
		t.Error(w.Procs().Room())
	}
}

// P17.4: the last descriptor of a process that ended, which is reaped then; and of one that is reaped already, whose descriptor goes like all else.
func TestLastOfOneThatEnded(t *testing.T) {
	w := made(t, some)
	w.Fork(1, true)
	opens(t, w, 1, api.KProc, 2, 0, 0)
	tells(t, "End", w.End(2, 7), api.OK)
	if p, ok := w.Procs().Get(2); !ok || p.Code != 7 || p.Lives {
		t.Error(p, ok)
	}
	closes(t, w, 1, 0)
	gone(t, w, "ended, and closed", 2)
	w.Fork(1, true)
	opens(t, w, 1, api.KProc, 3, 0, 0)
	tells(t, "End", w.End(3, 7), api.OK)
	if code, e := w.Procs().Reap(3); code != 7 || e != api.OK {
		t.Error(code, e)
	}
	stays(t, w, "what is there of others", func() {
		dup(t, w, 1, 0, 1)
		closes(t, w, 1, 1)
	})
	closes(t, w, 1, 0)
	named(t, w, "reaped, and closed", 2, 0)
	gone(t, w, "reaped", 3)
}

// P17.4: one that was forked without a descriptor is reaped too, if one of it is opened and goes; then nobody can wait for it.
func TestLastOfAChild(t *testing.T) {
	w := made(t, some)
	forks(t, w, 1, 2)
	opens(t, w, 1, api.KProc, 2, 0, 0)
	closes(t, w, 1, 0)
	gone(t, w, "closed", 2)
	if n, c, e := w.Procs().Wait(1, 0); n != 0 || c != 0 || e != api.ECHILD {
		t.Error(n, c, e)
	}
}

// P17.4: the process 1 does not end with its last descriptor, nor is it reaped.
func TestLastOfTheFirst(t *testing.T) {
	w := made(t, some)
	opens(t, w, 1, api.KDir, 1, 0, 0)
	id := opens(t, w, 1, api.KProc, 1, 0, 1)
	w.Park(1, api.Req{No: 9})
	closes(t, w, 1, 1)
	named(t, w, "closed", id, 0)
	fds(t, w, "closed", 1, 0)
	if r, ok := w.Parked(1); !w.Procs().Lives(1) || r.No != 9 || !ok {
		t.Error(r, ok)
	}
	held(t, w, "closed", 1, 3)
}

// own answers a world in which the process 2 has the last descriptor of itself (3), between a file (2) and a directory (4).
func own(t *testing.T) *World {
	t.Helper()
	w := made(t, some)
	creates(t, w, "f", api.KFile, 2)
	w.Fork(1, true)
	opens(t, w, 1, api.KProc, 2, 0, 0)
	p := passes(t, w, 1, 0)
	closes(t, w, 1, 0)
	for fd := range 3 {
		opens(t, w, 2, api.KFile, 2, 0, fd)
	}
	if fd := w.Give(2, p); fd != 3 {
		t.Fatal(fd)
	}
	opens(t, w, 2, api.KDir, 1, 0, 4)
	named(t, w, "given", 1, 1)
	held(t, w, "opened", 2, 3)
	held(t, w, "opened", 1, 4)
	return w
}

// P17.4: the last descriptor of a process in its own hands: closed, or another one laid onto it, or ended with it, the process is not there any more, and has left nothing.
func TestLastInItsOwnHands(t *testing.T) {
	does := map[string]func(w *World) api.Errno{
		"Close":    func(w *World) api.Errno { return w.Close(2, 3) },
		"Onto":     func(w *World) api.Errno { return w.Onto(2, 1, 3) },
		"End":      func(w *World) api.Errno { return w.End(2, 5) },
		"Onto end": func(w *World) api.Errno { return w.Onto(2, 4, 3) },
	}
	for name, do := range does {
		w := own(t)
		w.Park(2, api.Req{No: 3})
		tells(t, name, do(w), api.OK)
		gone(t, w, name, 2)
		held(t, w, name, 2, 0)
		held(t, w, name, 1, 2)
		d := w.Dump()
		if len(d.Files) != 0 || len(d.Held) != 0 || len(d.Parks) != 0 || len(d.Procs) != 1 {
			t.Errorf("%s: %s", name, all(w))
		}
	}
}

// P17.4: four processes, each of which has the last descriptor of the next: that of the second goes, and all but 1 are gone.
func TestRowOfProcesses(t *testing.T) {
	w := made(t, some)
	for pid := 2; pid <= 4; pid++ {
		w.Fork(1, true)
	}
	for pid := 1; pid <= 3; pid++ {
		opens(t, w, pid, api.KProc, pid+1, 0, 0)
	}
	opens(t, w, 4, api.KDir, 1, 0, 0)
	closes(t, w, 1, 0)
	if d := w.Dump(); len(d.Procs) != 1 || len(d.Files) != 0 || len(d.Held) != 0 {
		t.Error(all(w))
	}
	held(t, w, "gone", 1, 2)
}

// P17.4: a ring of processes, each of which has the last descriptor of the next, is gone when one of them is.
func TestRingOfProcesses(t *testing.T) {
	for _, ends := range []int{2, 3, 4} {
		w := made(t, some)
		for pid := 2; pid <= 4; pid++ {
			w.Fork(1, true)
		}
		for pid := 2; pid <= 4; pid++ {
			opens(t, w, pid, api.KProc, 2+(pid-1)%3, 0, 0)
		}
		tells(t, "End", w.End(ends, 1), api.OK)
		if d := w.Dump(); len(d.Procs) != 1 || len(d.Files) != 0 || len(d.Held) != 0 {
			t.Error(all(w))
		}
		held(t, w, "gone", 1, 2)
	}
}

// P17.4: Drop lets go in order, each as often as it stands there; of nothing, and of what is not there, it does nothing.
func TestDrop(t *testing.T) {
	w := made(t, some)
	id := opens(t, w, 1, api.KDir, 1, 0, 0)
	other := opens(t, w, 1, api.KDir, 1, 0, 1)
	l := []api.Passed{passes(t, w, 1, 0), passes(t, w, 1, 1), passes(t, w, 1, 0)}
	named(t, w, "passed", id, 3)
	named(t, w, "passed", other, 2)
	stays(t, w, "Drop of nothing", func() {
		w.Drop(nil)
		w.Drop([]api.Passed{})
		for _, file := range append(nobody, 3) {
			w.Drop([]api.Passed{{File: file}})
		}
	})
	w.Drop(l[:2])
	named(t, w, "dropped", id, 2)
	named(t, w, "dropped", other, 1)
	w.Drop(append([]api.Passed{{File: 99}}, l[2:]...))
	named(t, w, "dropped", id, 1)
	if fmt.Sprint(l[0]) != fmt.Sprint(api.Passed(tables.Full(id))) {
		t.Error(l)
	}
	p := passes(t, w, 1, 0)
	closes(t, w, 1, 0)
	named(t, w, "closed", id, 1)
	w.Drop([]api.Passed{p, p, p})
	named(t, w, "gone", id, 0)
	held(t, w, "gone", 1, 3)
}

// P17.5: Look tells the descriptor and its open file, if it has all rights that are asked for.
func TestLook(t *testing.T) {
	w := made(t, some)
	if fd := w.Open(1, api.KDir, 1, api.ONonblock, less); fd != 0 {
		t.Fatal(fd)
	}
	forks(t, w, 1, 2)
	for _, need := range []api.Rights{0, api.CapRead, api.CapIoctl | api.CapFcntl, less.Rights} {
		for pid := 1; pid <= 2; pid++ {
			s, f, e := w.Look(pid, 0, need)
			if fmt.Sprint(s) != fmt.Sprint(less) || f != (api.File{ID: 1, Kind: api.KDir, Obj: 1, Flags: api.ONonblock, Refs: 2}) || e != api.OK {
				t.Error(s, f, e)
			}
		}
	}
	tells(t, "End", w.End(2, 0), api.OK)
	none := func(what string, pid, fd int, need api.Rights, want api.Errno) {
		t.Helper()
		s, f, e := w.Look(pid, fd, need)
		if s.File != 0 || s.Rights != 0 || s.Ioctls.All || len(s.Ioctls.L) != 0 || s.Fcntls != 0 || f != (api.File{}) || e != want {
			t.Errorf("%s: %v %v %d, not %d", what, s, f, e, want)
		}
	}
	none("a right that it has not", 1, 0, api.CapWrite, api.ENOTCAPABLE)
	none("one of two that it has not", 1, 0, api.CapRead|api.CapWrite, api.ENOTCAPABLE)
	none("all", 1, 0, api.CapAll, api.ENOTCAPABLE)
	for _, fd := range []int{-1, 1, 7, 8, 64, math.MaxInt, math.MinInt} {
		none("no descriptor", 1, fd, 0, api.EBADF)
		none("no descriptor", 1, fd, api.CapAll, api.EBADF)
	}
	for _, pid := range append(nobody, 2, 3) {
		none("nobody", pid, 0, 0, api.ESRCH)
		none("nobody", pid, -1, api.CapAll, api.ESRCH)
	}
}

// P17.5: Dup takes the first free number from there on; the open file is named by one more, with the same rights and whitelists.
func TestDup(t *testing.T) {
	w := made(t, some)
	if fd := w.Open(1, api.KDir, 1, 0, less); fd != 0 {
		t.Fatal(fd)
	}
	opens(t, w, 1, api.KDir, 1, 0, 1)
	for i, row := range [][2]int{{5, 5}, {5, 6}, {0, 2}, {3, 3}, {1, 4}, {7, 7}} {
		if to, e := w.Dup(1, 0, row[0]); to != row[1] || e != api.OK {
			t.Errorf("Dup from %d: %d %d, not %d", row[0], to, e, row[1])
		}
		named(t, w, "dupped", 1, i+2)
		if s, _, e := w.Look(1, row[1], 0); fmt.Sprint(s) != fmt.Sprint(less) || e != api.OK {
			t.Error(s, e)
		}
	}
	stays(t, w, "Dup into a full table", func() {
		for _, from := range []int{0, 3, 7} {
			if to, e := w.Dup(1, 1, from); to != 0 || e != api.EMFILE {
				t.Errorf("Dup from %d: %d %d", from, to, e)
			}
		}
	})
	closes(t, w, 1, 3)
	if to, e := w.Dup(1, 0, 4); to != 0 || e != api.EMFILE {
		t.Errorf("the free one lies ahead: %d %d", to, e)
	}
	dup(t, w, 1, 0, 3)
	tells(t, "Limit", w.Slots(1).Limit(3, 0), api.OK)
	if s, _, e := w.Look(1, 0, 0); fmt.Sprint(s) != fmt.Sprint(less) || e != api.OK {
		t.Error("apart from then on:", s, e)
	}
	if to, e := w.Dup(1, 3, 0); to != 0 || e != api.EMFILE {
		t.Errorf("without a right: %d %d", to, e)
	}
}

// P17.5: what Dup, Onto, Close and Pass tell of wrong numbers: first of the process, then of the descriptor, then of where it is to lie; nothing is changed.
func TestFirstErrors(t *testing.T) {
	w := made(t, some)
	opens(t, w, 1, api.KDir, 1, 0, 0)
	tells(t, "Onto", w.Onto(1, 0, 2), api.OK)
	forks(t, w, 1, 2)
	tells(t, "End", w.End(2, 0), api.OK)
	var pids, free, beyond = append([]int{2, 3}, nobody...), []int{1, 3, 7, 8, -1, 64, math.MaxInt, math.MinInt}, []int{-1, 8, 9, 64, math.MaxInt, math.MinInt}
	dups := func(pid, fd, from int, want api.Errno) {
		t.Helper()
		if to, e := w.Dup(pid, fd, from); to != 0 || e != want {
			t.Errorf("Dup(%d, %d, %d): %d %d, not %d", pid, fd, from, to, e, want)
		}
	}
	pass := func(pid, fd int, want api.Errno) {
		t.Helper()
		if p, e := w.Pass(pid, fd); p.File != 0 || p.Rights != 0 || p.Ioctls.All || len(p.Ioctls.L) != 0 || p.Fcntls != 0 || e != want {
			t.Errorf("Pass(%d, %d): %v %d, not %d", pid, fd, p, e, want)
		}
	}
	stays(t, w, "an error", func() {
		for _, pid := range pids {
			for _, fd := range []int{0, 1, -1} {
				dups(pid, fd, -1, api.ESRCH)
				dups(pid, fd, 0, api.ESRCH)
				tells(t, "Onto", w.Onto(pid, fd, fd), api.ESRCH)
				tells(t, "Onto", w.Onto(pid, fd, 9), api.ESRCH)
				tells(t, "Close", w.Close(pid, fd), api.ESRCH)
				pass(pid, fd, api.ESRCH)
			}
		}
		for _, fd := range free {
			dups(1, fd, -1, api.EBADF)
			dups(1, fd, 0, api.EBADF)
			tells(t, "Onto", w.Onto(1, fd, fd), api.EBADF)
			tells(t, "Onto", w.Onto(1, fd, 0), api.EBADF)
			tells(t, "Onto", w.Onto(1, fd, 9), api.EBADF)
			tells(t, "Close", w.Close(1, fd), api.EBADF)
			pass(1, fd, api.EBADF)
		}
		for _, to := range beyond {
			dups(1, 0, to, api.EINVAL)
			tells(t, "Onto", w.Onto(1, 0, to), api.EBADF)
		}
	})
}

// P17.5: Onto itself, onto a free one, onto one that is used, onto one of the same open file, onto the first and the last one.
func TestOnto(t *testing.T) {
	w := made(t, some)
	if fd := w.Open(1, api.KDir, 1, 0, less); fd != 0 {
		t.Fatal(fd)
	}
	opens(t, w, 1, api.KFile, 1, 0, 1)
	opens(t, w, 1, api.KDir, 1, 0, 2)
	dup(t, w, 1, 1, 3)
	stays(t, w, "onto itself", func() { tells(t, "Onto", w.Onto(1, 0, 0), api.OK) })
	row := func(what string, fd, to int, refs ...int) {
		t.Helper()
		tells(t, what, w.Onto(1, fd, to), api.OK)
		from, _, _ := w.Look(1, fd, 0)
		if s, _, e := w.Look(1, to, 0); fmt.Sprint(s) != fmt.Sprint(from) || e != api.OK {
			t.Errorf("%s: %v %d", what, s, e)
		}
		for i, n := range refs {
			named(t, w, what, i+1, n)
		}
	}
	row("onto a free one", 0, 5, 2, 2, 1)
	row("onto the last one", 0, 7, 3, 2, 1)
	row("onto one that is used twice", 0, 3, 4, 1, 1)
	row("onto one of the same open file", 0, 3, 4, 1, 1)
	row("onto one that is used once", 0, 1, 5, 0, 1)
	held(t, w, "onto", 1, 2+2)
	row("onto the first one", 2, 0, 4, 0, 2)
	row("back", 5, 2, 5, 0, 1)
	fds(t, w, "onto", 1, 0, 1, 2, 3, 5, 7)
}

// P17.5: Close frees the number, and lets go of the open file; what others have stays.
func TestClose(t *testing.T) {
	w := made(t, some)
	id := opens(t, w, 1, api.KDir, 1, 0, 0)
	dup(t, w, 1, 0, 1)
	forks(t, w, 1, 2)
	named(t, w, "forked", id, 4)
	closes(t, w, 1, 0)
	fds(t, w, "closed", 1, 1)
	fds(t, w, "another one's", 2, 0, 1)
	tells(t, "closed again", w.Close(1, 0), api.EBADF)
	named(t, w, "closed", id, 3)
	closes(t, w, 2, 1, 0)
	closes(t, w, 1, 1)
	named(t, w, "closed", id, 0)
	if f, ok := w.Files().Get(id); ok || w.Files().Room() != 12 {
		t.Error(f)
	}
}

// P17.6: what is passed has the open file, rights and whitelists of the descriptor, and names it by itself; who is given it has that.
func TestPassAndGive(t *testing.T) {
	w := made(t, some)
	if fd := w.Open(1, api.KDir, 1, 0, less); fd != 0 {
		t.Fatal(fd)
	}
	forks(t, w, 1, 2)
	opens(t, w, 2, api.KDir, 1, 0, 1)
	p := passes(t, w, 1, 0)
	if fmt.Sprint(p) != fmt.Sprint(api.Passed(less)) {
		t.Error(p)
	}
	named(t, w, "passed", 1, 3)
	closes(t, w, 1, 0)
	closes(t, w, 2, 0)
	named(t, w, "closed", 1, 1)
	if fd := w.Give(2, p); fd != 0 {
		t.Error("given:", fd)
	}
	named(t, w, "given", 1, 1)
	if s, _, e := w.Look(2, 0, 0); fmt.Sprint(s) != fmt.Sprint(less) || e != api.OK {
		t.Error(s, e)
	}
	p = passes(t, w, 2, 0)
	if fd := w.Give(2, p); fd != 2 {
		t.Error("given again:", fd)
	}
	named(t, w, "given again", 1, 2)
	closes(t, w, 2, 0, 2)
	named(t, w, "closed", 1, 0)
}

// P17.6: -1 of one that does not live, and where no descriptor is free; then it is still passed. The last free one is given.
func TestGiveWrong(t *testing.T) {
	w := made(t, some)
	opens(t, w, 1, api.KDir, 1, 0, 0)
	forks(t, w, 1, 2)
	tells(t, "End", w.End(2, 0), api.OK)
	for fd := 1; fd < 7; fd++ {
		dup(t, w, 1, 0, fd)
	}
	p := passes(t, w, 1, 0)
	none := func(what string, pid int, p api.Passed) {
		t.Helper()
		stays(t, w, what, func() {
			if fd := w.Give(pid, p); fd != -1 {
				t.Errorf("%s: %d", what, fd)
			}
		})
	}
	for _, pid := range append(nobody, 2, 3) {
		none("nobody", pid, p)
	}
	none("no open file", 1, api.Passed{})
	none("no whitelist", 1, api.Passed{File: 1, Ioctls: api.List{L: []int{-1}}})
	none("no command of fcntl", 1, api.Passed{File: 1, Fcntls: 1})
	if fd := w.Give(1, p); fd != 7 {
		t.Error("the last free one:", fd)
	}
	p = passes(t, w, 1, 0)
	none("none is free", 1, p)
	named(t, w, "passed", 1, 9)
	w.Drop([]api.Passed{p})
	named(t, w, "dropped", 1, 8)
}

// P17.7: a child has its parent's descriptors, whose open files are named by one more each, and a hold on its directory; both are apart from then on.
func TestFork(t *testing.T) {
	w := made(t, some)
	creates(t, w, "d", api.KDir, 2)
	tells(t, "Move", w.Move(1, 2), api.OK)
	if fd := w.Open(1, api.KDir, 2, 0, less); fd != 0 {
		t.Fatal(fd)
	}
	opens(t, w, 1, api.KDir, 2, 0, 1)
	dup(t, w, 1, 1, 2)
	closes(t, w, 1, 1)
	dup(t, w, 1, 2, 1)
	w.Dup(1, 0, 6)
	held(t, w, "opened", 2, 3)
	w.Park(1, api.Req{No: 3})
	tells(t, "Enter", w.Procs().Enter(1), api.OK)
	for i, pd := range []bool{true, false} {
		pid := 2 + i
		if child, e := w.Fork(1, pd); child != pid || e != api.OK {
			t.Fatal(child, e)
		}
		if p, ok := w.Procs().Get(pid); p != (api.Proc{Pid: pid, Parent: 1, Lives: true, Pd: pd, Cap: true, Cwd: 2}) || !ok {
			t.Error(p, ok)
		}
		named(t, w, "forked", 1, 2*(i+2))
		named(t, w, "forked", 2, 2*(i+2))
		held(t, w, "forked", 2, 3+i+1)
		fds(t, w, "forked", pid, 0, 1, 2, 6)
		for _, fd := range []int{0, 1, 2, 6} {
			a, _, _ := w.Look(1, fd, 0)
			if b, _, e := w.Look(pid, fd, 0); fmt.Sprint(a) != fmt.Sprint(b) || e != api.OK {
				t.Error(a, b, e)
			}
		}
		if r, ok := w.Parked(pid); ok {
			t.Error("a child waits with", r)
		}
	}
	tells(t, "Limit", w.Slots(2).Limit(6, 0), api.OK)
	closes(t, w, 3, 2)
	if s, _, _ := w.Look(1, 6, 0); s.Rights != less.Rights {
		t.Error(s)
	}
	fds(t, w, "closed in a child", 1, 0, 1, 2, 6)
	opens(t, w, 2, api.KDir, 2, 0, 3)
	fds(t, w, "opened in a child", 1, 0, 1, 2, 6)
}

// P17.7: without room, and of one that does not live, there is no child, and nothing is changed; the last place can be had.
func TestForkErrors(t *testing.T) {
	w := made(t, some)
	opens(t, w, 1, api.KDir, 1, 0, 0)
	for pid := 2; pid <= 5; pid++ {
		forks(t, w, 1, pid)
	}
	none := func(pid int, want api.Errno) {
		t.Helper()
		for _, pd := range []bool{false, true} {
			stays(t, w, "no fork", func() {
				if child, e := w.Fork(pid, pd); child != 0 || e != want {
					t.Errorf("Fork(%d): %d %d, not %d", pid, child, e, want)
				}
			})
		}
	}
	none(1, api.EAGAIN)
	named(t, w, "full", 1, 5)
	tells(t, "End", w.End(3, 0), api.OK)
	none(1, api.EAGAIN)
	none(3, api.ESRCH)
	w.Procs().Wait(1, 0)
	for _, pid := range append(nobody, 3, 6) {
		none(pid, api.ESRCH)
	}
	forks(t, w, 2, 6)
	none(2, api.EAGAIN)
}

// P17.7: an end: it waits no more, its directory and its descriptors are let go, its children go to 1; what it ended with stays till it is reaped.
func TestEnd(t *testing.T) {
	w := made(t, some)
	creates(t, w, "d", api.KDir, 2)
	opens(t, w, 1, api.KDir, 1, 0, 0)
	forks(t, w, 1, 2)
	tells(t, "Move", w.Move(2, 2), api.OK)
	p := w.Pipe()
	opens(t, w, 2, api.KPipe, p, api.OWrite, 1)
	forks(t, w, 2, 3)
	tells(t, "Rmdir", w.FS().Rmdir(1, "d"), api.OK)
	w.Park(2, api.Req{No: 3})
	w.Park(3, api.Req{No: 4})
	tells(t, "End", w.End(2, 42), api.OK)
	if q, ok := w.Procs().Get(2); q != (api.Proc{Pid: 2, Parent: 1, Code: 42}) || !ok {
		t.Error(q, ok)
	}
	if q, _ := w.Procs().Get(3); q != (api.Proc{Pid: 3, Parent: 1, Lives: true, Cwd: 2}) {
		t.Error(q)
	}
	if _, ok := w.Parked(2); ok {
		t.Error("it waits")
	}
	if r, ok := w.Parked(3); !ok || r.No != 4 {
		t.Error("its child does not wait")
	}
	held(t, w, "ended", 2, 1)
	named(t, w, "ended", 1, 2)
	named(t, w, "ended", 2, 1)
	ends(t, w, "ended", p, true, true, "")
	stays(t, w, "a second end", func() { tells(t, "End", w.End(2, 1), api.ESRCH) })
	tells(t, "End", w.End(3, 0), api.OK)
	held(t, w, "both ended", 2, -1)
	ends(t, w, "both ended", p, true, false, "")
	fds(t, w, "both ended", 1, 0)
	if d := w.Dump(); len(d.Held) != 1 || len(d.Parks) != 0 || len(d.Files) != 1 {
		t.Error(all(w))
	}
}

// P17.7: what End tells of 1, and of who does not live; nothing is changed.
func TestEndErrors(t *testing.T) {
	w := made(t, some)
	opens(t, w, 1, api.KDir, 1, 0, 0)
	forks(t, w, 1, 2)
	forks(t, w, 1, 3)
	tells(t, "End", w.End(2, 1), api.OK)
	tells(t, "End", w.End(3, 1), api.OK)
	w.Procs().Reap(3)
	w.Park(1, api.Req{No: 3})
	stays(t, w, "an error", func() {
		tells(t, "of 1", w.End(1, 0), api.EPERM)
		for _, pid := range append(nobody, 2, 3, 4) {
			tells(t, "of nobody", w.End(pid, 0), api.ESRCH)
		}
	})
}

// P17.7: an end with what it is told, whatever that is.
func TestEndCodes(t *testing.T) {
	for _, code := range []int{0, 1, 137, 255, 256, -1, math.MaxInt, math.MinInt} {
		w := made(t, some)
		forks(t, w, 1, 2)
		tells(t, "End", w.End(2, code), api.OK)
		if pid, c, e := w.Procs().Wait(1, 0); pid != 2 || c != code || e != api.OK {
			t.Error(pid, c, e)
		}
	}
}

// P17.7: a directory that a process is in is held: moved to, moved in, removed, left.
func TestMove(t *testing.T) {
	w := made(t, some)
	creates(t, w, "d", api.KDir, 2)
	forks(t, w, 1, 2)
	tells(t, "Move", w.Move(2, 2), api.OK)
	held(t, w, "moved to", 2, 1)
	held(t, w, "moved from", 1, 2)
	if p, _ := w.Procs().Get(2); p.Cwd != 2 {
		t.Error(p)
	}
	if p, _ := w.Procs().Get(1); p.Cwd != 1 {
		t.Error(p)
	}
	stays(t, w, "moved to where it is", func() { tells(t, "Move", w.Move(2, 2), api.OK) })
	tells(t, "Move", w.Move(1, 2), api.OK)
	held(t, w, "both in it", 2, 2)
	held(t, w, "both from it", 1, 1)
	tells(t, "Rename", w.FS().Rename(1, "d", 1, "e"), api.OK)
	tells(t, "Rmdir", w.FS().Rmdir(1, "e"), api.OK)
	held(t, w, "removed", 2, 2)
	stays(t, w, "moved into what is removed", func() { tells(t, "Move", w.Move(2, 2), api.ENOENT) })
	tells(t, "Move", w.Move(1, 1), api.OK)
	held(t, w, "one of both left", 2, 1)
	tells(t, "Move", w.Move(2, 1), api.OK)
	held(t, w, "left", 2, -1)
	held(t, w, "both back", 1, 3)
}

// P17.7: a process that is alone in a directory without a link can't move into it again, and does not lose it by trying.
func TestMoveInRemoved(t *testing.T) {
	w := made(t, some)
	creates(t, w, "d", api.KDir, 2)
	tells(t, "Move", w.Move(1, 2), api.OK)
	tells(t, "Rmdir", w.FS().Rmdir(1, "d"), api.OK)
	tells(t, "Move", w.Move(1, 2), api.ENOENT)
	held(t, w, "tried", 2, 1)
	forks(t, w, 1, 2)
	held(t, w, "forked", 2, 2)
	tells(t, "End", w.End(2, 0), api.OK)
	held(t, w, "ended", 2, 1)
}

// P17.7: what Move tells: of the process first, then of what is no directory to go into.
func TestMoveErrors(t *testing.T) {
	w := made(t, some)
	creates(t, w, "f", api.KFile, 2)
	if ino, e := w.FS().Create(1, "s", api.KSymlink, "."); ino != 3 || e != api.OK {
		t.Fatal(ino, e)
	}
	creates(t, w, "b", api.KBound, 4)
	creates(t, w, "d", api.KDir, 5)
	opens(t, w, 1, api.KDir, 5, 0, 0)
	opens(t, w, 1, api.KFile, 2, 0, 1)
	tells(t, "Rmdir", w.FS().Rmdir(1, "d"), api.OK)
	tells(t, "Unlink", w.FS().Unlink(1, "f"), api.OK)
	forks(t, w, 1, 2)
	tells(t, "End", w.End(2, 0), api.OK)
	stays(t, w, "an error", func() {
		for _, pid := range append(nobody, 2, 3) {
			for _, dir := range []int{1, 2, 0, 9} {
				tells(t, "nobody", w.Move(pid, dir), api.ESRCH)
			}
		}
		for _, dir := range []int{2, 3, 4} {
			tells(t, "no directory", w.Move(1, dir), api.ENOTDIR)
		}
		tells(t, "no link", w.Move(1, 5), api.ENOENT)
		for _, dir := range []int{0, -1, 6, 99, math.MaxInt, math.MinInt} {
			tells(t, "none", w.Move(1, dir), api.ENOENT)
		}
	})
}

// P17.8: who waits, and with what; parked again it waits with that; woken, and ended, with nothing.
func TestPark(t *testing.T) {
	w := made(t, some)
	forks(t, w, 1, 2)
	forks(t, w, 1, 3)
	tells(t, "End", w.End(3, 0), api.OK)
	waits := func(what string, pid int, want api.Req, is bool) {
		t.Helper()
		if r, ok := w.Parked(pid); fmt.Sprint(r) != fmt.Sprint(want) || ok != is {
			t.Errorf("%s: %d waits with %v %v, not %v %v", what, pid, r, ok, want, is)
		}
	}
	one := api.Req{No: 3, A: [5]int{1, 2, 3, 4, 5}, S: "s", T: "t", L: []int{6, 7}}
	two := api.Req{No: -1, A: [5]int{math.MinInt}, S: "\x00"}
	for _, pid := range append(nobody, 3, 4) {
		stays(t, w, "nobody", func() { w.Park(pid, one) })
		waits("nobody", pid, api.Req{}, false)
	}
	waits("at first", 1, api.Req{}, false)
	w.Park(2, one)
	waits("parked", 2, one, true)
	waits("another one", 1, api.Req{}, false)
	w.Park(1, two)
	w.Park(2, two)
	waits("parked again", 2, two, true)
	w.Park(2, one)
	if got := w.Dump().Parks; fmt.Sprint(got) != fmt.Sprint([]api.Park{{Pid: 1, Req: two}, {Pid: 2, Req: one}}) {
		t.Error(got)
	}
	w.Park(2, api.Req{})
	waits("parked with nothing", 2, api.Req{}, true)
	w.Wake(2)
	waits("woken", 2, api.Req{}, false)
	waits("the other one", 1, two, true)
	stays(t, w, "a second Wake", func() {
		w.Wake(2)
		for _, pid := range append(nobody, 3, 4) {
			w.Wake(pid)
		}
	})
	w.Park(2, one)
	tells(t, "End", w.End(2, 0), api.OK)
	waits("ended", 2, api.Req{}, false)
	w.Park(2, one)
	waits("parked when it had ended", 2, api.Req{}, false)
}

// P17.8: Dump tells all there is, each by its numbers.
func TestDump(t *testing.T) {
	w := made(t, some)
	creates(t, w, "f", api.KFile, 2)
	tells(t, "Write", w.FS().Write(2, 1, []byte("b")), api.OK)
	a, b := pair(t, w, 0)
	p := w.Pipe()
	w.Pipe()
	opens(t, w, 1, api.KPipe, p, 0, 2)
	w.Ring(p).Put([]byte("cd"))
	forks(t, w, 1, 2)
	if fd := w.Open(2, api.KFile, 2, api.OAppend, less); fd != 3 {
		t.Fatal(fd)
	}
	closes(t, w, 2, 0)
	sends(t, w, a, 2)
	w.Park(2, api.Req{No: 3, L: []int{1}})
	w.Fork(2, true)
	tells(t, "End", w.End(3, 4), api.OK)
	limited := less
	limited.File = 4
	want := api.Dump{
		Procs: []api.Proc{{Pid: 1, Lives: true, Cwd: 1}, {Pid: 2, Parent: 1, Lives: true, Cwd: 1}, {Pid: 3, Parent: 2, Code: 4, Pd: true}},
		Held: []api.Held{
			{Pid: 1, Fd: 0, Slot: tables.Full(1)}, {Pid: 1, Fd: 1, Slot: tables.Full(2)}, {Pid: 1, Fd: 2, Slot: tables.Full(3)},
			{Pid: 2, Fd: 1, Slot: tables.Full(2)}, {Pid: 2, Fd: 2, Slot: tables.Full(3)}, {Pid: 2, Fd: 3, Slot: limited},
		},
		Parks: []api.Park{{Pid: 2, Req: api.Req{No: 3, L: []int{1}}}},
		Files: []api.File{
			{ID: 1, Kind: api.KSock, Obj: a, Flags: api.OBoth, Refs: 1}, {ID: 2, Kind: api.KSock, Obj: b, Flags: api.OBoth, Refs: 2},
			{ID: 3, Kind: api.KPipe, Obj: p, Refs: 3}, {ID: 4, Kind: api.KFile, Obj: 2, Flags: api.OAppend, Refs: 1},
		},
		Pipes: []api.Pipe{{ID: 1, Reads: true, Writes: true, B: "cd"}, {ID: 2, Reads: true, Writes: true}},
		Socks: []api.Sock{
			{ID: a, State: api.SockJoined, Peer: b},
			{ID: b, State: api.SockJoined, Peer: a, Parts: []api.Part{{B: []byte("x"), L: []api.Passed{api.Passed(tables.Full(3))}}}},
		},
		Inodes: []api.Inode{
			{Ino: 1, Kind: api.KDir, Holds: 3, Parent: 1, Names: []string{"f"}, Inos: []int{2}},
			{Ino: 2, Kind: api.KFile, Links: 1, Holds: 1, Text: "\x00b", Blocks: 1},
		},
		Next: [5]int{4, 5, 3, 3, 3},
	}
	if got := all(w); got != fmt.Sprintf("%+v", want) {
		t.Errorf("%s\nnot\n%+v", got, want)
	}
	stays(t, w, "Dump", func() { w.Dump() })
}

// P17.8: pipes are told by their numbers, however many there are.
func TestDumpOfManyPipes(t *testing.T) {
	w := made(t, some)
	for id := 1; id <= 200; id++ {
		w.Pipe()
		if id%3 == 0 {
			opens(t, w, 1, api.KPipe, id, 0, 0)
			opens(t, w, 1, api.KPipe, id, api.OWrite, 1)
			closes(t, w, 1, 0, 1)
		}
	}
	id := 0
	for _, p := range w.Dump().Pipes {
		if id++; id%3 == 0 {
			id++
		}
		if p.ID != id {
			t.Fatal(p.ID, id)
		}
	}
	if id != 200 {
		t.Error(id)
	}
}

// Memory: what is handed in is neither changed nor kept, and what is told is nobody else's.
func TestMemory(t *testing.T) {
	w := made(t, some)
	like := less
	like.Ioctls.L = append(make([]int, 0, 8), 1, 3)
	if fd := w.Open(1, api.KDir, 1, 0, like); fd != 0 || like.File != less.File {
		t.Fatal(fd, like)
	}
	r := api.Req{No: 3, L: append(make([]int, 0, 8), 1, 2)}
	w.Park(1, r)
	p := passes(t, w, 1, 0)
	given := p
	given.Ioctls.L = append(make([]int, 0, 8), 1, 3)
	if fd := w.Give(1, given); fd != 1 {
		t.Fatal(fd)
	}
	forks(t, w, 1, 2)
	dup(t, w, 1, 0, 2)
	tells(t, "Onto", w.Onto(1, 0, 3), api.OK)
	spoil := func(l []int) {
		for i := range l[:cap(l)] {
			l[:cap(l)][i] = 99
		}
	}
	s, _, _ := w.Look(1, 0, 0)
	parked, _ := w.Parked(1)
	stays(t, w, "what is spoilt outside", func() {
		for _, l := range [][]int{like.Ioctls.L, r.L, p.Ioctls.L, given.Ioctls.L, s.Ioctls.L, parked.L} {
			spoil(l)
		}
		d := w.Dump()
		for _, h := range d.Held {
			spoil(h.Slot.Ioctls.L)
		}
		spoil(d.Parks[0].Req.L)
		d.Procs[0].Cwd, d.Files[0].Refs, d.Inodes[0].Holds = 9, 9, 9
		for i := range d.Held {
			d.Held[i].Slot.File = 9
		}
	})
	tells(t, "Limit", w.Slots(1).LimitIoctls(0, []int{3}), api.OK)
	for _, fd := range []int{1, 2, 3} {
		if s, _, _ := w.Look(1, fd, 0); fmt.Sprint(s) != fmt.Sprint(less) {
			t.Errorf("%d was limited, too: %v", fd, s)
		}
	}
	if s, _, _ := w.Look(2, 0, 0); fmt.Sprint(s) != fmt.Sprint(less) {
		t.Error("the child's was limited, too:", s)
	}
}

// Rules: two worlds know nothing of one another.
func TestTwoWorlds(t *testing.T) {
	w, other := made(t, some), made(t, some)
	stays(t, other, "what is done with another one", func() {
		pair(t, w, 0)
		w.Pipe()
		forks(t, w, 1, 2)
		creates(t, w, "d", api.KDir, 2)
		tells(t, "Move", w.Move(1, 2), api.OK)
		w.Park(1, api.Req{No: 3})
		w.Wake(1)
		tells(t, "End", w.End(2, 0), api.OK)
		closes(t, w, 1, 0, 1)
	})
}

// Rules: no call panics, also on a world that New did not make.
func TestZeroValueDoesNotPanic(t *testing.T) {
	w := &World{}
	for _, n := range []int{0, 1, -1, math.MaxInt} {
		w.Slots(n)
		w.Fits(n, n, n)
		w.Open(n, n, n, n, full)
		w.Open(n, api.KDir, 1, 0, full)
		w.Pipe()
		w.Ring(n)
		w.Ends(n)
		w.Look(n, n, 0)
		w.Dup(n, n, n)
		w.Onto(n, n, n)
		w.Close(n, n)
		w.Pass(n, n)
		w.Give(n, api.Passed(full))
		w.Drop([]api.Passed{{File: n}})
		w.Fork(n, true)
		w.End(n, n)
		w.Move(n, n)
		w.Park(n, api.Req{})
		w.Parked(n)
		w.Wake(n)
	}
	w.FS()
	w.Socks()
	w.Files()
	w.Procs()
	w.Limits()
	w.Dump()
}

// Rules: whatever the tables themselves are made to say, no call of the world panics.
func TestTablesSpoiltDoNotPanic(t *testing.T) {
	w := made(t, some)
	pair(t, w, 0)
	p := w.Pipe()
	opens(t, w, 1, api.KPipe, p, 0, 2)
	child, _ := w.Procs().Fork(1, false)
	w.Files().Drop(1)
	w.Socks().Close(2)
	w.FS().Release(1)
	w.Slots(1).Set(3, tables.Full(77))
	for _, pid := range []int{1, child} {
		w.Fits(pid, 1, 1)
		w.Open(pid, api.KDir, 1, 0, full)
		w.Dup(pid, 0, 0)
		w.Onto(pid, 3, 1)
		w.Look(pid, 0, 0)
		w.Pass(pid, 3)
		w.Give(pid, api.Passed(full))
		w.Park(pid, api.Req{})
		w.Fork(pid, true)
		w.Move(pid, 1)
		for fd := range 8 {
			w.Close(pid, fd)
		}
		w.End(pid, 0)
		w.Dump()
	}
	if r := (*ring.Ring)(nil); w.Ring(9) != r {
		t.Error("a buffer of no pipe")
	}
}
