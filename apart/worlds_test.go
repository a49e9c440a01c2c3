package apart

import (
	"fmt"
	"reflect"
	"slices"
	"strings"
	"sync"
	"testing"

	"purlieu/api"
	"purlieu/calls"
	"purlieu/kernel"
	"purlieu/world"
)

// again answers a player in a new world, in which the same has been done.
func (p *player) again(l api.Limits) *player {
	q := begins(l, p.dice)
	for _, s := range p.done {
		q.does(s)
	}
	return q
}

// lives tells whether a process lives.
func (p *player) lives(pid int) bool {
	return slices.ContainsFunc(p.now.Procs, func(x api.Proc) bool { return x.Pid == pid && x.Lives })
}

// beside answers a process that lives, and is none of these, if there is one; else 1.
func (p *player) beside(pids []int) int {
	var l []int
	for _, x := range p.now.Procs {
		if x.Lives && !slices.Contains(pids, x.Pid) {
			l = append(l, x.Pid)
		}
	}
	if len(l) == 0 {
		return 1
	}
	return p.some(l...)
}

// other answers something like a step, by which as much room may go.
func (p *player) other(s api.Step, pids []int) api.Step {
	if p.dice(4) == 0 {
		s.Pid = p.beside(pids)
	}
	switch r := &s.Req; {
	case r.No == write || r.No == send || r.No == pwrite:
		r.S = p.name("z", "yz", r.S)
	case r.S != "":
		r.S = p.name("/o/p", "/o/q", "/c/p", "/x", r.S)
	case r.No == lseek || r.No == dup:
		r.A[1]++
	}
	return s
}

// quiet answers a step of others that takes no room, mostly.
func (p *player) quiet(pids []int) api.Step {
	pid := p.beside(pids)
	if p.dice(4) == 0 {
		return p.stepOf(pid)
	}
	r := p.like(pid, p.some(write, pwrite, read, send, recv, rename, chdir, fchdir, lseek, dup, link, kill, enter, listen, shutdown, ftruncate))
	if r.No == kill && p.dice(3) > 0 {
		r.A[0] = 9
	}
	return api.Step{Pid: pid, Req: r}
}

// twins are two worlds, and a group that is in both.
type twins struct {
	name  string
	a, b  *player
	pids  []int
	count map[string]int
}

// differ lets others do something in one world, or in both, but not the same.
func (w *twins) differ() {
	s := w.a.quiet(w.pids)
	switch w.a.dice(5) {
	case 0:
		w.a.does(s)
	case 1:
		w.b.does(s)
	case 2:
		w.a.does(s)
		w.b.does(s)
	default:
		w.a.does(s)
		w.b.does(w.a.other(s, w.pids))
	}
}

// alike holds whether the worlds are alike for the group against the plain words, and answers why they are not.
func (w *twins) alike(t *testing.T) string {
	t.Helper()
	return alike(t, w.name, w.a.now, w.b.now, w.pids, sees(w.a.now, w.pids), sees(w.b.now, w.pids))
}

// can tells whether a process has the descriptors that its call is of.
func (p *player) can(s api.Step) bool {
	call, _ := calls.Get(s.Req.No)
	for i, c := range strings.ToLower(call.Shape) {
		if c != 'f' && c != 'd' {
			break
		}
		if !slices.ContainsFunc(p.now.Held, func(x api.Held) bool { return x.Pid == s.Pid && x.Fd == s.Req.A[i] }) {
			return false
		}
	}
	return true
}

// acts lets one of the group do something, the same in both worlds, which must come to the same; its children are of the group, too. Answers whether all of it live still.
func (w *twins) acts(t *testing.T) bool {
	t.Helper()
	differ := fmt.Sprint(w.a.now) != fmt.Sprint(w.b.now)
	s := w.a.stepOf(w.a.some(w.pids...))
	for range 5 {
		if !w.a.can(s) {
			s = w.a.stepOf(w.a.some(w.pids...))
		}
	}
	asked := s.Req.No
	for _, x := range w.a.now.Parks {
		if x.Pid == s.Pid {
			asked = x.Req.No
		}
	}
	o, p := w.a.does(s), w.b.does(s)
	if !reflect.DeepEqual(o, p) {
		t.Fatalf("%s: %v of %v: %v and %v\n%v\n%v", w.name, s, w.pids, o, p, w.a.now, w.b.now)
	}
	if o.Mark == api.Idle {
		return false
	}
	if differ {
		w.count[fmt.Sprint("mark ", o.Mark)]++
		w.count[fmt.Sprint("error ", int(o.Res.Err))]++
		if o.Res.Err == api.OK && o.Mark != api.Parked {
			w.count[fmt.Sprint("by ", asked)]++
		}
	}
	if (asked == fork || asked == pdfork) && o.Mark == api.Done && o.Res.Err == api.OK {
		w.pids = append(w.pids, w.a.now.Next[0]-1)
	}
	return !slices.ContainsFunc(w.pids, func(pid int) bool { return !w.a.lives(pid) })
}

// forgotten tells whether the group has let go of a socket that nobody can come to any more, but in which something of its own waits: so that, by the words of P29.2, it is not sealed. All else is alike still.
func (w *twins) forgotten(why string) bool {
	var all []int
	for _, x := range w.a.now.Procs {
		all = append(all, x.Pid)
	}
	anybody := reached(w.a.now, all)
	for _, x := range w.a.now.Socks {
		if slices.Contains(anybody, api.Obj{Kind: api.KSock, ID: x.ID}) {
			continue
		}
		w.count["forgotten"]++
		x, y := sees(w.a.now, w.pids), sees(w.b.now, w.pids)
		return why == "sealed in neither" && x.why == "it waits elsewhere" && y.why == x.why && unlike(w.a.now, w.b.now, w.pids, seen{part: x.part}, seen{part: y.part}) == ""
	}
	return false
}

// rounds lets others differ, and the group act, in turns.
func (w *twins) rounds(t *testing.T) {
	for range 6 {
		for range 1 + w.a.dice(4) {
			w.differ()
		}
		why := w.alike(t)
		w.count["twins "+why]++
		if why != "" {
			return
		}
		if fmt.Sprint(w.a.now) != fmt.Sprint(w.b.now) {
			w.count["alike, but not the same"]++
		}
		all := true
		for range 1 + w.a.dice(25) {
			if all = w.acts(t) && all; !all {
				w.count["not all live"]++
				continue
			}
			if why := w.alike(t); why != "" && !w.forgotten(why) {
				t.Fatalf("%s: after %v of %v: %s, %s\n%v", w.name, w.a.done[len(w.a.done)-1], w.pids, why, sees(w.a.now, w.pids).why, w.a.now)
			}
		}
		if !all {
			return
		}
	}
}

// sealed answers a group that is sealed, if one is found.
func (p *player) sealed() []int {
	for range 6 {
		if pids := p.picks(); Sealed(p.now, pids) {
			return pids
		}
	}
	return nil
}

// P29.5: in two worlds in which others did not do the same, but that are alike for a group, the group's steps come to the same, and they are alike then, as far as all of the group live still.
func TestNobodyElse(t *testing.T) {
	var both sync.Mutex
	count := map[string]int{}
	t.Run("worlds", func(t *testing.T) {
		for i := range 8 {
			t.Run("", func(t *testing.T) {
				t.Parallel()
				for j := range 250 {
					dice := dice(uint64(i*1000 + j))
					l := limits(dice)
					a := begins(l, dice)
					a.opens()
					for range dice(40) {
						a.does(a.step())
					}
					w := &twins{fmt.Sprint("seed ", i*1000+j), a, nil, a.sealed(), map[string]int{}}
					if w.pids != nil {
						w.b = a.again(l)
						w.rounds(t)
					}
					both.Lock()
					for what, n := range w.count {
						count[what] += n
					}
					both.Unlock()
				}
			})
		}
	})
	l := []string{"alike, but not the same", "twins ", "not all live", "mark 1", "mark 2"}
	for _, no := range []int{exit, fork, read, write, shut, getpid, getppid, dup, dup2, pipe, lseek, ftruncate, openat, mkdirat, unlinkat, renameat, symlinkat, sock, pair, bindat, listen, shutdown, send, recv, poll, pdfork, pdkill, enter} {
		l = append(l, fmt.Sprint("by ", no))
	}
	for _, err := range []api.Errno{api.EPERM, api.ENOENT, api.EBADF, api.EEXIST, api.ENOTDIR, api.EISDIR, api.EINVAL, api.ENFILE, api.EMFILE, api.ENOSPC, api.EPIPE, api.EAGAIN, api.ENOTSOCK, api.ENOTCONN, api.ENOTCAPABLE, api.ECAPMODE} {
		l = append(l, fmt.Sprint("error ", int(err)))
	}
	often(t, count, 20, l...)
	often(t, count, 3, "mark 3", "forgotten", "twins parts", "twins rooms", "twins rests", "twins sealed in one", "by 36", "by 37", "by 40", "by 47", "by 48", "by 54", "by 56")
}

// pairs are two worlds, in which 2 has the directory 2 to itself, with a file in it, is in the directory 3 only, and was made by 1, which has a file and a pair of sockets.
func pairs(t *testing.T) [2]*world.World {
	t.Helper()
	var w [2]*world.World
	for i := range w {
		w[i] = world.New(api.Limits{Procs: 4, Fds: 8, Files: 8, Inodes: 8, Blocks: 4, Pipe: 4, Sock: 4})
		for _, r := range []api.Req{says(mkdir, "a"), says(mkdir, "c"), says(open, "a/f", api.OCreat), asks(shut, 0), says(open, "a"), says(chdir, "c"), asks(fork), asks(shut, 0), says(chdir, "/"), says(open, "o", api.OCreat|api.OBoth), says(write, "here", 0), asks(pair)} {
			if res := kernel.Do(w[i], 1, r); res.Err != api.OK {
				t.Fatal(r, res)
			}
		}
		kernel.Do(w[i], 2, asks(enter))
	}
	return w
}

// step is a step, and what is to come of it.
type step struct {
	s    api.Step
	want api.Out
}

// done answers a step that is done, and comes to this.
func done(pid int, r api.Req, val int, err api.Errno, l ...int) step {
	return step{api.Step{Pid: pid, Req: r}, api.Out{Mark: api.Done, Res: api.Res{Val: val, Err: err, L: l}}}
}

// inner are steps of 2, and of the child that it makes.
func inner() []step {
	reads := api.Step{Pid: 2, Req: asks(read, 2, 9)}
	return []step{
		done(2, asks(getppid), 1, api.OK),
		done(2, says(openat, "f", 0, api.OBoth), 1, api.OK),
		done(2, says(write, "hello", 1), 5, api.OK),
		done(2, says(mkdirat, "b", 0), 0, api.OK),
		done(2, says(fstatat, "", 0, 0), 0, api.ENOENT),
		done(2, says(fstatat, "f", 0, 0), 0, api.OK, 1, 5, 1, 1),
		done(2, says(openat, "../o", 0), 0, api.ENOTCAPABLE),
		done(2, says(open, "/o"), 0, api.ECAPMODE),
		done(2, asks(pipe), 2, api.OK, 2, 3),
		done(2, asks(fork), 3, api.OK),
		{reads, api.Out{Mark: api.Parked}},
		done(3, says(write, "x", 3), 1, api.OK),
		{reads, api.Out{Mark: api.Woken, Res: api.Res{Val: 1, S: "x"}}},
		done(3, asks(pdfork), 4, api.OK),
		done(3, asks(fork), 0, api.EAGAIN),
		done(2, says(mkdirat, "d", 0), 0, api.OK),
		done(2, says(mkdirat, "e", 0), 0, api.OK),
		done(2, says(mkdirat, "g", 0), 0, api.ENOSPC),
		done(3, asks(fchdir, 0), 0, api.ECAPMODE),
		done(2, says(unlinkat, "b", 0, 1), 0, api.OK),
	}
}

// P29.5: in two worlds that differ outside of what 2 reaches alone, its steps come to the same, literally; and both are alike behind each, for it and its children.
func TestSameSteps(t *testing.T) {
	for name, differ := range map[string][2][]api.Req{
		"nothing":          {},
		"bytes of a file":  {{says(write, "1", 0)}, {says(pwrite, "other", 0, 1)}},
		"names":            {{}, {both(rename, "o", "q")}},
		"names of it":      {{}, {both(rename, "a", "q"), both(rename, "q", "a")}},
		"sockets":          {{gives(1, 0)}, {asks(shutdown, 2, 2)}},
		"the mode":         {{}, {asks(enter)}},
		"descriptors":      {{asks(dup, 0)}, {asks(dup2, 0, 7)}},
		"links":            {{both(link, "o", "o2")}, {both(link, "o", "c/o")}},
		"one that waits":   {{asks(recv, 1, 9)}, {}},
		"of where it is":   {{}, {both(rename, "c", "cc")}},
		"where others are": {{}, {says(chdir, "/")}},
	} {
		w := pairs(t)
		for i, l := range differ {
			for _, r := range l {
				if o := kernel.Step(w[i], api.Step{Pid: 1, Req: r}); o.Res.Err != api.OK {
					t.Fatal(name, r, o)
				}
			}
		}
		pids := []int{2}
		for _, x := range inner() {
			var o [2]api.Out
			for i := range w {
				o[i] = kernel.Step(w[i], x.s)
				if fmt.Sprint(o[i]) != fmt.Sprint(x.want) {
					t.Error(name, x.s, o[i], "not", x.want)
				}
			}
			if x.s.Req.No == fork && x.want.Res.Err == api.OK || x.s.Req.No == pdfork {
				pids = append(pids, len(pids)+2)
			}
			if a, b := w[0].Dump(), w[1].Dump(); !Alike(a, b, pids) {
				t.Fatal(name, x.s, unlike(a, b, pids, sees(a, pids), sees(b, pids)))
			}
		}
	}
}

// P29.4, P29.5: where it is not alike for 2, its steps may come to something else: what makes it so, and steps of which one tells it.
func TestNotTheSame(t *testing.T) {
	makes := []api.Req{says(mkdirat, "b", 0), says(mkdirat, "d", 0), says(mkdirat, "e", 0), says(mkdirat, "g", 0)}
	writes := []api.Req{says(openat, "f", 0, api.OBoth), says(write, "x", 1), asks(lseek, 1, 64, 0), says(write, "x", 1), asks(lseek, 1, 128, 0), says(write, "x", 1)}
	for _, x := range []struct {
		name   string
		differ [2][]api.Req // of 1
		why    string
		tells  []api.Req // of 2
	}{
		{"inodes", [2][]api.Req{{says(mkdir, "y")}, {says(mkdir, "y"), says(rmdir, "y")}}, "rooms", makes},
		{"open files", [2][]api.Req{{asks(sock), asks(dup, 3)}, {asks(sock), asks(shut, 3)}}, "rooms", []api.Req{asks(pair), asks(sock), asks(sock)}},
		{"blocks", [2][]api.Req{{asks(lseek, 0, 128, 0), says(write, "x", 0)}, {says(write, "x", 0)}}, "rooms", writes},
		{"processes", [2][]api.Req{{asks(pdfork)}, {asks(pdfork), asks(shut, 3), asks(dup, 0)}}, "rooms", []api.Req{asks(fork), asks(fork)}},
		{"the next inode", [2][]api.Req{{says(mkdir, "y"), says(rmdir, "y")}, {}}, "parts", nil},
		{"the next process", [2][]api.Req{{asks(pdfork), asks(shut, 3)}, {asks(sock), asks(shut, 3)}}, "parts", []api.Req{asks(fork)}},
		{"its file", [2][]api.Req{{both(link, "a/f", "x")}, {both(link, "o", "x")}}, "parts", []api.Req{says(fstatat, "f", 0, 0)}},
		{"its directory", [2][]api.Req{{both(rename, "a/f", "a/x")}, {}}, "parts", []api.Req{says(openat, "x", 0)}},
		{"where another one is", [2][]api.Req{{says(chdir, "a")}, {}}, "parts", nil},
		{"where it is, gone", [2][]api.Req{{says(rmdir, "c")}, {}}, "rests", nil},
		{"where it is, with another one", [2][]api.Req{{says(chdir, "c")}, {}}, "rests", nil},
		{"another one's, too", [2][]api.Req{{says(open, "a/f")}, {says(open, "o")}}, "sealed in one", nil},
		{"another one's in both", [2][]api.Req{{says(open, "a")}, {says(open, "a")}}, "sealed in neither", nil},
	} {
		w := pairs(t)
		for i, l := range x.differ {
			for _, r := range l {
				if o := kernel.Step(w[i], api.Step{Pid: 1, Req: r}); o.Res.Err != api.OK {
					t.Fatal(x.name, r, o)
				}
			}
		}
		pids := []int{2}
		a, b := w[0].Dump(), w[1].Dump()
		if why := alike(t, x.name, a, b, pids, sees(a, pids), sees(b, pids)); why != x.why {
			t.Error(x.name, why, "not", x.why)
		}
		same := true
		for _, r := range x.tells {
			s := api.Step{Pid: 2, Req: r}
			same = same && fmt.Sprint(kernel.Step(w[0], s)) == fmt.Sprint(kernel.Step(w[1], s))
		}
		if same && x.tells != nil {
			t.Error(x.name, "comes to the same")
		}
	}
}

// P29.2: what waits in a socket of its own of which the group has let go, without that one's being gone, waits elsewhere.
func TestForgotten(t *testing.T) {
	w := pairs(t)[0]
	tries := func(want bool, l ...api.Req) {
		t.Helper()
		for _, r := range l {
			if o := kernel.Step(w, api.Step{Pid: 2, Req: r}); o.Res.Err != api.OK {
				t.Fatal(r, o)
			}
		}
		told(t, "forgotten", w.Dump(), []int{2})
		if got := Sealed(w.Dump(), []int{2}); got != want {
			t.Error(l, got)
		}
	}
	tries(true, asks(pair), gives(1, 2, 0))
	tries(true, asks(shut, 2))
	tries(false, asks(shut, 1)) // the socket is named by what waits in it alone
	tries(true, asks(shut, 0))
}
