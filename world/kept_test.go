package world

import (
	"slices"
	"testing"

	"purlieu/api"
	tables "purlieu/slots"
)

// user does with a world what calls of processes do: each thing is opened once, when it is made, and what is passed is sent, given or dropped at once. So each of its steps leaves P17.9 and P17.10 as they are.
type user struct {
	*World
	dice  func(n int) int
	plain bool // it sends no sockets, so that no two wait in one another for good
	did   map[string]int
}

// some answers one of l.
func (u *user) some(l ...int) int { return l[u.dice(len(l))] }

// who answers a process that lives, of 1 twice as often.
func (u *user) who() int {
	var pids []int
	for _, p := range u.Procs().Dump() {
		if p.Lives {
			pids = append(pids, p.Pid)
		}
	}
	return u.some(append(pids, 1)...)
}

// open opens a thing for a process, which must be possible.
func (u *user) open(t *testing.T, pid, kind, obj, flags int) {
	t.Helper()
	if u.Open(pid, kind, obj, flags, full) < 0 {
		t.Fatalf("Open(%d, %d, %d, %d): none", pid, kind, obj, flags)
	}
}

// inode answers a number of an inode, and its kind.
func (u *user) inode() (int, int) {
	all := u.FS().Dump()
	x := all[u.dice(len(all))]
	return x.Ino, x.Kind
}

// sock answers a socket's number that a descriptor of pid is of, 0 if there is none.
func (u *user) sock(pid int) int {
	var l []int
	for _, fd := range u.Slots(pid).All() {
		if _, f, _ := u.Look(pid, fd, 0); f.Kind == api.KSock {
			l = append(l, f.Obj)
		}
	}
	if len(l) == 0 {
		return 0
	}
	return u.some(l...)
}

// opens makes new things, or opens what is there.
func (u *user) opens(t *testing.T, pid int) {
	two, one := u.Fits(pid, 2, 2) == api.OK, u.Fits(pid, 1, 1) == api.OK
	switch n := u.dice(7); {
	case n == 0 && two:
		p := u.Pipe()
		u.open(t, pid, api.KPipe, p, u.some(0, 4))
		u.open(t, pid, api.KPipe, p, api.OWrite|u.some(0, 4))
		u.Ring(p).Put([]byte("abcd")[:u.dice(5)])
		u.did["pipe"]++
	case n == 1 && two:
		a, b := u.Socks().Pair()
		u.open(t, pid, api.KSock, a, api.OBoth)
		u.open(t, pid, api.KSock, b, api.OBoth)
		u.did["pair"]++
	case n == 2 && one:
		u.door(t, pid)
	case n == 3 || n == 4:
		u.accepts(t, pid, one)
	case n == 5 && one:
		if child, e := u.Fork(pid, true); e == api.OK {
			u.open(t, pid, api.KProc, child, 0)
			u.did["pdfork"]++
		}
	case one:
		if ino, kind := u.inode(); kind == api.KFile || kind == api.KDir {
			u.open(t, pid, kind, ino, u.some(0, 1, 2, 9))
			u.did["open"]++
		}
	}
}

// door makes a fresh socket, and lets it listen, or connects it to one that does.
func (u *user) door(t *testing.T, pid int) {
	x := u.Socks().Make()
	u.open(t, pid, api.KSock, x, api.OBoth)
	if u.dice(2) == 0 {
		u.Socks().Bind(x, 200+u.dice(3))
		u.Socks().Listen(x, u.dice(4))
		return
	}
	if u.Socks().Connect(x, u.Socks().Find(200+u.dice(3))) == api.OK {
		u.did["connect"]++
	}
}

// accepts opens what waits at a socket that listens, if there is room.
func (u *user) accepts(t *testing.T, pid int, room bool) {
	at := slices.IndexFunc(u.Socks().Dump(), func(s api.Sock) bool { return len(s.Waits) > 0 })
	if at < 0 || !room {
		return
	}
	id, e := u.Socks().Accept(u.Socks().Dump()[at].ID)
	if e != api.OK {
		t.Fatal(e)
	}
	u.open(t, pid, api.KSock, id, api.OBoth)
	u.did["accept"]++
}

// sends sends descriptors of pid, and drops them, if they can't be.
func (u *user) sends(pid int) {
	var l []api.Passed
	for range u.dice(3) {
		p, e := u.Pass(pid, u.dice(u.Limits().Fds))
		if e != api.OK {
			continue
		}
		if f, _ := u.Files().Get(p.File); u.plain && f.Kind == api.KSock {
			u.Drop([]api.Passed{p})
			continue
		}
		l = append(l, p)
	}
	if _, e := u.Socks().Send(u.sock(pid), []byte("ab"), l); e != api.OK {
		u.Drop(l)
		return
	}
	u.did["send"] += len(l)
}

// recvs receives descriptors for pid, and drops those that it can't have.
func (u *user) recvs(pid int) {
	_, told, others, _ := u.Socks().Recv(u.sock(pid), 1+u.dice(3), u.dice(3))
	for _, p := range told {
		if u.Give(pid, p) < 0 {
			u.Drop([]api.Passed{p})
		}
		u.did["recv"]++
	}
	u.Drop(others)
}

// moves goes about in the file system, and changes it.
func (u *user) moves(pid int) {
	ino, _ := u.inode()
	name := string(rune('a' + u.dice(4)))
	switch u.dice(7) {
	case 0:
		u.FS().Create(ino, name, u.some(api.KDir, api.KFile), "")
	case 1, 4:
		if u.FS().Rmdir(ino, name) == api.OK {
			u.did["rmdir"]++
		}
	case 2:
		if u.FS().Unlink(ino, name) == api.OK {
			u.did["unlink"]++
		}
	case 3:
		u.FS().Write(ino, u.dice(2)*64, []byte("x"))
	default:
		if u.Move(pid, ino) == api.OK {
			u.did["move"]++
		}
	}
}

// step makes a step such as comes.
func (u *user) step(t *testing.T) {
	pid := u.who()
	fd, to := u.dice(u.Limits().Fds), u.dice(u.Limits().Fds)
	switch u.dice(14) {
	case 0, 1, 2:
		u.opens(t, pid)
	case 3:
		u.Fork(pid, false)
	case 4:
		if u.dice(3) == 0 {
			u.End(pid, 1)
		}
	case 5:
		u.Procs().Wait(pid, 0)
	case 6:
		u.Park(pid, api.Req{No: 3})
	case 7, 8:
		u.sends(pid)
	case 9:
		u.recvs(pid)
	case 10:
		u.Dup(pid, fd, to)
	case 11:
		u.Onto(pid, fd, to)
	case 12:
		u.moves(pid)
	case 13:
		u.Close(pid, fd)
		l, _ := u.Socks().Shut(u.sock(pid)*u.dice(2), u.dice(3))
		u.Drop(l)
	}
}

// ends lets all go: all processes but 1 end, and 1 closes what it has, and goes to the root.
func (u *user) ends(t *testing.T) {
	for _, p := range u.Procs().Dump() {
		if p.Lives && p.Pid != 1 {
			u.End(p.Pid, 0)
		}
	}
	closes(t, u.World, 1, u.Slots(1).All()...)
	u.Wake(1)
	tells(t, "Move", u.Move(1, 1), api.OK)
	for e := api.OK; e == api.OK; {
		_, _, e = u.Procs().Wait(1, 0)
	}
}

// P17.9, P17.10: behind every step of long rows of what processes do, all is counted, and nothing is left; and when all end, nothing is there but what is linked.
func TestCountedAndNothingLeft(t *testing.T) {
	did := map[string]int{}
	for seed := range 120 {
		dice := dice(uint64(seed))
		l := api.Limits{Procs: 2 + dice(6), Fds: 2 + dice(10), Files: 2 + dice(20), Inodes: 2 + dice(8), Blocks: dice(4), Pipe: 4, Sock: 2 + dice(6)}
		u := &user{made(t, l), dice, seed%2 == 0, did}
		for i := range 500 {
			u.step(t)
			d := u.Dump()
			if e := counted(d); e != nil {
				t.Fatalf("%v, seed %d, step %d: %v", l, seed, i, e)
			}
			if e := left(d); e != nil {
				t.Fatalf("%v, seed %d, step %d: %v", l, seed, i, e)
			}
		}
		u.ends(t)
		d := u.Dump()
		if e := counted(d); e != nil {
			t.Fatalf("%v, seed %d, at the end: %v", l, seed, e)
		}
		if u.plain && (len(d.Procs) != 1 || len(d.Held)+len(d.Parks)+len(d.Files)+len(d.Pipes)+len(d.Socks) != 0) {
			t.Fatalf("%v, seed %d, at the end: %+v", l, seed, d)
		}
		for _, x := range d.Inodes {
			if u.plain && (x.Ino == 1 && x.Holds != 2 || x.Ino != 1 && (x.Holds != 0 || x.Links != 1)) {
				t.Fatalf("%v, seed %d, at the end: %v", l, seed, x)
			}
		}
	}
	for _, what := range []string{"pipe", "pair", "open", "connect", "accept", "pdfork", "send", "recv", "rmdir", "unlink", "move"} {
		if did[what] < 20 {
			t.Errorf("%s: just %d times", what, did[what])
		}
	}
}

// P17.9: an open file is named by each way at once, and by one less for each that goes, in whichever order.
func TestCountedInEveryOrder(t *testing.T) {
	for order := range 120 {
		w := made(t, some)
		id := opens(t, w, 1, api.KDir, 1, 0, 0)
		a, b := w.Socks().Pair()
		opens(t, w, 1, api.KSock, b, 0, 1)
		opens(t, w, 1, api.KSock, a, 0, 2)
		sends(t, w, a, 0)
		dup(t, w, 1, 0, 3)
		forks(t, w, 1, 2)
		closes(t, w, 2, 1, 2, 3)
		p := passes(t, w, 1, 0)
		let := []func(){
			func() { closes(t, w, 1, 0) },
			func() { closes(t, w, 1, 3) },
			func() { closes(t, w, 1, 1) },
			func() { tells(t, "End", w.End(2, 0), api.OK) },
			func() { w.Drop([]api.Passed{p}) },
		}
		named(t, w, "named", id, 5)
		for n, rest := 5, order; n > 0; n, rest = n-1, rest/n {
			i := rest % n
			let[i]()
			let = slices.Delete(let, i, i+1)
			named(t, w, "let go", id, n-1)
		}
		held(t, w, "gone", 1, 2)
	}
}

// P17.9: the holds of the root are one, the processes in it, and the open files of it.
func TestHoldsOfTheRoot(t *testing.T) {
	w := made(t, some)
	for fd := range 3 {
		opens(t, w, 1, api.KDir, 1, 0, fd)
	}
	forks(t, w, 1, 2)
	forks(t, w, 2, 3)
	held(t, w, "three open, three in it", 1, 7)
	closes(t, w, 1, 0)
	held(t, w, "closed in one of three", 1, 7)
	tells(t, "End", w.End(2, 0), api.OK)
	tells(t, "End", w.End(3, 0), api.OK)
	held(t, w, "ended", 1, 4)
	w.Procs().Wait(1, 0)
	held(t, w, "waited for", 1, 4)
	if s := tables.Full(1); w.Give(1, api.Passed(s)) != 0 {
		t.Error("none")
	}
	held(t, w, "given what is not there", 1, 4)
}
