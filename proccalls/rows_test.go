package proccalls

import (
	"fmt"
	"math"
	"slices"
	"strings"
	"testing"

	"purlieu/api"
	"purlieu/dircalls"
	"purlieu/fscalls"
	"purlieu/ipccalls"
	"purlieu/world"
)

// same does a call, and tells its answer, and whether it and what is there then is what the chapter says; and whether something is another one.
func same(t *testing.T, p *plain, w *world.World, pid int, r api.Req) (api.Res, bool) {
	t.Helper()
	was := w.Dump()
	l := slices.Clone(r.L)
	x := p.call(pid, r)
	got := Call(w, pid, r)
	now := w.Dump()
	if got.Val != x.Val || got.Err != x.Err || got.S != x.S || !slices.Equal(got.L, x.L) || !alike(now, p.d) {
		t.Fatalf("%d: %v: %v, not %v; there is\n%q\nnot\n%q\nfrom\n%q", pid, r, got, x, more(lines(now), lines(p.d)), more(lines(p.d), lines(now)), more(lines(was), lines(p.d)))
	}
	if !slices.Equal(l, r.L) {
		t.Fatalf("%v: the list was %v", r, l)
	}
	return got, !alike(now, was)
}

// requests answers each call of the chapter on a number.
func requests(n int) []api.Req {
	l := []api.Req{req(fork), req(fork, n), req(getpid), req(getpid, n), req(getppid), req(pdfork), req(pdfork, n), req(pdgetpid, n)}
	for _, code := range []int{-1, 0, 1, 128, 255, 256} {
		l = append(l, req(exit, code))
	}
	for s := -1; s <= 33; s++ {
		l = append(l, req(kill, n, s), req(pdkill, n, s))
	}
	for how := -1; how <= 2; how++ {
		l = append(l, req(wait, n, how), req(pdwait, n, how))
	}
	return l
}

// P21.1 to P21.5: each call on each number, by each process, with much room and little: what it answers, and all there is behind it.
func TestEachCallAgainstPlain(t *testing.T) {
	t.Parallel()
	for i, change := range []func(t *testing.T, w *world.World){
		func(*testing.T, *world.World) {},
		func(t *testing.T, w *world.World) {
			for _, pid := range living {
				for fd := range free {
					dups(t, w, first, fd, pid)
				}
				spare(t, w, pid, 1, 1)
			}
			crowd(t, w, 1)
		},
		func(t *testing.T, w *world.World) {
			spare(t, w, second, 0, 1)
			crowd(t, w, 0)
			s := w.Slots(first)
			must(t, "limit", s.Limit(toSecond, api.CapPdgetpid))
			must(t, "limit", s.Limit(toLost, api.CapAll&^api.CapPdwait))
			must(t, "limit", s.Limit(toGone, api.CapPdkill|api.CapPdwait))
			for _, pid := range []int{second, young, orphan} {
				must(t, "enter", w.Procs().Enter(pid))
			}
		},
	} {
		t.Run(fmt.Sprint(i), func(t *testing.T) {
			t.Parallel()
			ready := func() (*world.World, *plain) {
				w := scene(t)
				change(t, w)
				return w, newPlain(w)
			}
			w, p := ready()
			for _, pid := range []int{first, second, capable, young, orphan, parked, ended, dead, lost, gone, nobody, 0, -1} {
				for n := -3; n <= beyond+1; n++ {
					for _, r := range requests(n) {
						if _, changed := same(t, p, w, pid, r); changed {
							w, p = ready()
						}
					}
				}
			}
		})
	}
}

// player makes requests such as come, in a world that changes.
type player struct {
	*world.World
	dice func(n int) int
}

// dice answers a roller of numbers below n, always the same row of them.
func dice(seed uint64) func(n int) int {
	return func(n int) int {
		seed = seed*6364136223846793005 + 1442695040888963407
		return int(seed >> 33 % uint64(n))
	}
}

// some answers one of l.
func (p *player) some(l ...int) int { return l[p.dice(len(l))] }

// fd answers a number, mostly of a descriptor that there is.
func (p *player) fd(pid int) int {
	if l := p.Slots(pid).All(); len(l) > 0 && p.dice(15) > 0 {
		return p.some(l...)
	}
	return p.dice(p.Limits().Fds+2) - 1
}

// of answers a descriptor that is open of such a thing, mostly.
func (p *player) of(pid, kind int) int {
	for range 15 {
		fd := p.fd(pid)
		if _, f, e := p.Look(pid, fd, 0); e == api.OK && f.Kind == kind {
			return fd
		}
	}
	return p.fd(pid)
}

// who answers a number of a process, mostly of one that is there.
func (p *player) who() int {
	if p.dice(10) == 0 {
		return p.dice(p.Procs().Numbers()+3) - 2
	}
	l := p.Procs().Dump()
	return l[p.dice(len(l))].Pid
}

// child answers a number of a child of pid, if there is one, ahead of others.
func (p *player) child(pid int) int {
	for _, x := range p.Procs().Dump() {
		if x.Parent == pid && p.dice(2) == 0 {
			return x.Pid
		}
	}
	return p.who()
}

// request answers a request of this chapter.
func (p *player) request(pid int) api.Req {
	no := p.some(append(chapter, fork, pdfork, pdfork, wait, pdwait)...)
	r := req(no)
	s := p.some(0, 1, 9, p.dice(32))
	switch no {
	case exit:
		r.A[0] = p.dice(256)
	case wait:
		r.A[0], r.A[1] = p.some(-1, 0, p.child(pid), p.child(pid), -2), p.dice(2)
	case kill:
		r.A[0], r.A[1] = p.who(), s*p.dice(2)
	case pdgetpid:
		r.A[0] = p.of(pid, api.KProc)
	case pdkill:
		r.A[0], r.A[1] = p.of(pid, api.KProc), s*p.dice(2)
	case pdwait:
		r.A[0], r.A[1] = p.of(pid, api.KProc), p.dice(2)
	}
	if p.dice(150) == 0 {
		r.A[p.dice(5)]++
	}
	return r
}

// other does something that is none of this chapter's calls.
func (p *player) other(pid int) {
	fd := p.fd(pid)
	switch p.dice(16) {
	case 0:
		if p.dice(4) == 0 {
			p.Procs().Enter(pid)
		}
	case 1:
		p.Slots(pid).Limit(fd, api.CapAll&^(1<<(24+p.dice(8))))
	case 2:
		dircalls.Call(p.World, pid, api.Req{No: 12, S: "d"})
		dircalls.Call(p.World, pid, api.Req{No: 5, S: []string{"/", ".", "d", "/d"}[p.dice(4)]})
	case 3:
		dircalls.Call(p.World, pid, api.Req{No: p.some(13, 10, 10), S: []string{"/", "d", "..", "d/d"}[p.dice(4)]})
	case 4:
		ipccalls.Call(p.World, pid, req(19))
	case 5:
		ipccalls.Call(p.World, pid, req(42))
	case 6, 7:
		ipccalls.Call(p.World, pid, api.Req{No: 50, A: [5]int{p.of(pid, api.KSock)}, S: "abc", L: []int{p.of(pid, api.KProc), fd}[:p.dice(3)]})
	case 8, 9:
		ipccalls.Call(p.World, pid, req(51, p.of(pid, api.KSock), p.dice(5), p.dice(4)))
	case 10:
		p.Park(pid, req(wait, -1))
	case 11:
		p.Dup(pid, fd, 0)
	case 12, 13:
		if x, e := p.Pass(pid, p.of(pid, api.KProc)); e == api.OK && p.Give(p.who(), x) < 0 {
			p.Drop([]api.Passed{x})
		}
	default:
		fscalls.Call(p.World, pid, req(6, fd))
	}
}

// limits answers how much there may be: much or little.
func limits(dice func(n int) int) api.Limits {
	return api.Limits{Procs: 1 + dice(9), Fds: 1 + dice(12), Files: 1 + dice(24), Inodes: 1 + dice(6), Blocks: 0, Pipe: 1 + dice(9), Sock: 1 + dice(9)}
}

// wrongs are what each call is told in a long row, besides OK.
var wrongs = map[int][]api.Errno{
	exit: {api.EPERM, api.EINVAL}, fork: {api.EAGAIN, api.EINVAL}, getpid: {api.EINVAL}, getppid: {api.EINVAL},
	wait:     {api.EINVAL, api.ECHILD, api.EWAIT, api.ECAPMODE},
	kill:     {api.EPERM, api.ESRCH, api.ECAPMODE, api.EINVAL},
	pdfork:   {api.EMFILE, api.ENFILE, api.EAGAIN, api.EINVAL},
	pdgetpid: {api.EBADF, api.ENOTCAPABLE, api.EINVAL, api.ESRCH},
	pdkill:   {api.EBADF, api.ENOTCAPABLE, api.EINVAL, api.ESRCH},
	pdwait:   {api.EBADF, api.ENOTCAPABLE, api.EINVAL, api.ESRCH, api.EWAIT},
}

// P21.1 to P21.5: long rows of calls by several processes, in worlds with much room and little, with other things between them.
func TestLongRowsAgainstPlain(t *testing.T) {
	t.Parallel()
	count := map[string]int{}
	for seed := range 400 {
		dice := dice(uint64(seed))
		w := world.New(limits(dice))
		u := &player{w, dice}
		p := newPlain(w)
		for range 300 {
			pid := u.who()
			for range 3 {
				if !w.Procs().Lives(pid) {
					pid = u.who()
				}
			}
			if w.Procs().Lives(pid) && dice(3) == 0 {
				u.other(pid)
				p.sees(w)
				continue
			}
			if !w.Procs().Lives(pid) {
				r := req(u.some(chapter...), dice(9))
				same(t, p, w, pid, r)
				count[fmt.Sprint(r.No, "by none")]++
				continue
			}
			r := u.request(pid)
			x, changed := same(t, p, w, pid, r)
			what := fmt.Sprint(r.No, int(x.Err), changed)
			if len(x.L) > 0 {
				what += " and a code"
			}
			if !w.Procs().Lives(pid) && r.No != exit {
				what += " and an end"
			}
			count[what]++
		}
	}
	seen := func(what string) {
		if count[what] < 5 {
			t.Errorf("%d times in all rows: %s", count[what], what)
		}
	}
	for _, no := range chapter {
		seen(fmt.Sprint(no, "by none"))
		for _, e := range wrongs[no] {
			seen(fmt.Sprint(no, int(e), false))
		}
	}
	for _, no := range []int{exit, fork, kill, pdfork, pdkill} {
		seen(fmt.Sprint(no, 0, true))
	}
	for _, no := range []int{wait, kill, pdkill, pdwait} { // nothing to be told yet, or to be done
		seen(fmt.Sprint(no, 0, false))
	}
	for _, no := range []int{wait, pdwait} {
		seen(fmt.Sprint(no, 0, true) + " and a code")
	}
	for _, no := range []int{kill, pdkill} { // of itself, or of one that has the last descriptor of it
		seen(fmt.Sprint(no, 0, true) + " and an end")
	}
}

// P21.1, P21.4: requests of any numbers, texts and lists end, and what is handed in stays as it is.
func TestAnyRequest(t *testing.T) {
	t.Parallel()
	dice := dice(7)
	some := func(l ...int) int { return l[dice(len(l))] }
	w := scene(t)
	p := newPlain(w)
	for range 20000 {
		r := api.Req{No: some(append(noCalls, chapter...)...)}
		if dice(2) == 0 {
			r.No = some(chapter...)
		}
		for i := range 1 + dice(3) {
			r.A[i] = some(0, 0, 0, 1, 1, 2, api.AtCwd, -1, free, 64, math.MinInt, math.MaxInt, dice(1<<20), dice(free), dice(free))
		}
		switch dice(12) {
		case 0:
			r.L = []int{dice(free), -1}
		case 1:
			r.S = strings.Repeat("x", dice(5))
		case 2:
			r.T = strings.Repeat("x", 4095+dice(3))
		}
		if _, changed := same(t, p, w, some(first, first, second, capable, young, orphan, parked, ended, nobody, 0, -1, math.MinInt, math.MaxInt), r); changed {
			w = scene(t)
			p = newPlain(w)
		}
	}
}
