package fscalls

import (
	"fmt"
	"math"
	"slices"
	"strings"
	"testing"

	"purlieu/api"
	"purlieu/dircalls"
	"purlieu/slots"
	"purlieu/world"
)

// same does a call, and tells its answer, and whether it and what is there then is what the chapter says; and whether something is another one.
func same(t *testing.T, p *plain, w *world.World, pid int, r api.Req) (api.Res, bool) {
	t.Helper()
	was := w.Dump()
	x := p.call(pid, r)
	got := Call(w, pid, r)
	now := w.Dump()
	if got.Val != x.Val || got.Err != x.Err || got.S != x.S || !slices.Equal(got.L, x.L) || !alike(now, p.d) {
		t.Fatalf("%d: %v: %v, not %v; there is\n%q\nnot\n%q\nfrom\n%q", pid, r, got, x, more(lines(now), lines(p.d)), more(lines(p.d), lines(now)), more(lines(was), lines(p.d)))
	}
	return got, !alike(now, was)
}

// requests answers each call of the chapter on a descriptor with numbers of all kinds.
func requests(fd int) []api.Req {
	var l []api.Req
	for _, no := range []int{closes, dup, ftruncate, fstat, fsync} {
		l = append(l, req(no, "", fd))
	}
	numbers := []int{0, 1, 2, 5, 6, 64, 65, 256, 257, -1, api.MaxFile, 1 << 40, math.MaxInt, math.MinInt}
	for _, n := range numbers {
		l = append(l, req(read, "", fd, n), req(ftruncate, "", fd, n), req(getdents, "", fd, n), req(dup2, "", fd, n), req(fcntl, "", fd, n, 4), req(fcntl, "", fd, 0, n), req(fcntl, "", fd, 4, n), req(fcntl, "", fd, 6, n), req(ioctl, "", fd, n, 1), req(ioctl, "", fd, 2, n), req(fsync, "", fd, n))
		for how := range 4 {
			l = append(l, req(lseek, "", fd, n, how), req(lseek, "", fd, -n, how))
		}
	}
	for _, off := range []int{0, 3, 5, 6, 63, 64, 128, -1, api.MaxFile, 1 << 40} {
		for _, n := range []int{0, 1, 5, 65, 256, 257} {
			l = append(l, req(pread, "", fd, n, off), req(pwrite, strings.Repeat("p", n), fd, off))
		}
	}
	for _, n := range []int{0, 1, 2, 3, 5, 6, 7, 8, 9, 128, 129, 256, 257} {
		l = append(l, req(write, strings.Repeat("w", n), fd))
	}
	for cmd := range 9 {
		l = append(l, req(fcntl, "", fd, cmd, 0), req(ioctl, "", fd, cmd, 0))
	}
	for _, to := range []int{fileW, fileB, dir, pipeR, lostW, sent, proc, free, most, beyond} {
		l = append(l, req(dup2, "", fd, to), req(fcntl, "", fd, 0, to))
	}
	return l
}

// P19.1 to P19.6: each call on each descriptor with all kinds of numbers, by each process, where files stand elsewhere and flags are others: what it answers, and all there is behind it.
func TestEachCallAgainstPlain(t *testing.T) {
	t.Parallel()
	for i, change := range []func(*world.World){asIs, flagged(nonblock), func(w *world.World) {
		stands(fileB, 3)(w)
		stands(dir, 2)(w)
		stands(fileA, 70)(w)
		flagged(nonblock | app)(w)
		w.Slots(first).Limit(fileW, api.CapWrite|api.CapTell)
		w.Slots(first).Limit(other, api.CapRead|api.CapSeek|api.CapIoctl|api.CapFcntl)
		w.Slots(first).LimitIoctls(pipeR, []int{2})
		w.Slots(first).LimitFcntls(pipeW, api.FcntlSetfl|api.FcntlGetown)
	}} {
		t.Run(fmt.Sprint(i), func(t *testing.T) {
			t.Parallel()
			ready := func() (*world.World, *plain) {
				w := scene(t)
				change(w)
				return w, newPlain(w)
			}
			w, p := ready()
			for fd := -1; fd <= free; fd++ {
				for j, r := range requests(fd) {
					pid := []int{first, first, first, second, capable, ended, nobody}[j%7]
					if _, changed := same(t, p, w, pid, r); changed {
						w, p = ready()
					}
				}
			}
		})
	}
}

// player makes requests such as come, in a world that changes.
type player struct {
	*world.World
	dice func(n int) int
}

// some answers one of l.
func (p *player) some(l ...int) int { return l[p.dice(len(l))] }

// fd answers a number, mostly of a descriptor that there is.
func (p *player) fd(pid int) int {
	if l := p.Slots(pid).All(); len(l) > 0 && p.dice(12) > 0 {
		return p.some(l...)
	}
	return p.dice(p.Limits().Fds+2) - 1
}

// number answers a number below n, mostly a little one.
func (p *player) number(n int) int {
	return p.some(p.dice(4), p.dice(10), p.dice(70), p.dice(n), n)
}

// request answers a request of this chapter.
func (p *player) request(pid int) api.Req {
	no := p.some(chapter...)
	if p.dice(3) > 0 {
		no = p.some(read, write, read, write, pread, pwrite, lseek)
	}
	r := req(no, "", p.fd(pid))
	switch no {
	case read:
		r.A[1] = p.number(256)
	case pread:
		r.A[1], r.A[2] = p.number(256), p.number(200)
	case pwrite:
		r.A[1] = p.number(200)
	case dup2:
		r.A[1] = p.fd(pid)
	case fcntl:
		r.A[1], r.A[2] = p.some(0, 3, 4, 4, 4, 5, 6, p.dice(9)), p.some(0, 0, nonblock, nonblock, app, nonblock|app, p.dice(20)-1)
	case ioctl:
		r.A[1], r.A[2] = p.some(1, 1, 2, 2, p.dice(9)-1), p.some(0, 1, 1, p.dice(4)-1)
	case lseek:
		r.A[1], r.A[2] = p.some(0, 0, p.number(200), -p.number(70), api.MaxFile-p.dice(3)), p.dice(3)
	case ftruncate:
		r.A[1] = p.some(p.number(200), p.number(200), api.MaxFile+p.dice(2))
	case getdents:
		r.A[1] = p.dice(5)
	}
	if no == write || no == pwrite {
		r.S = strings.Repeat(string(rune('a'+p.dice(26))), p.some(0, 1, 2, p.dice(9), p.dice(9), p.dice(70), p.dice(257)))
	}
	if p.dice(150) == 0 {
		r.A[p.dice(5)]++
	}
	return r
}

// opens opens something: a file or directory by its path, both ends of a pipe, both of two sockets, or one socket.
func (p *player) opens(pid int) {
	all := slots.Full(1)
	more := p.some(0, 0, nonblock, app)
	switch p.dice(6) {
	case 0:
		if p.Fits(pid, 2, 2) == api.OK {
			id := p.Pipe()
			p.Open(pid, api.KPipe, id, more, all)
			p.Open(pid, api.KPipe, id, more|wr, all)
		}
	case 1:
		if p.Fits(pid, 2, 2) == api.OK {
			a, b := p.Socks().Pair()
			p.Open(pid, api.KSock, a, more|both, all)
			p.Open(pid, api.KSock, b, more|both, all)
		}
	case 2:
		if p.dice(8) == 0 && p.Fits(pid, 1, 1) == api.OK {
			p.Open(pid, api.KSock, p.Socks().Make(), both, all)
		}
	case 3:
		dircalls.Call(p.World, pid, req(5, []string{"/", ".", "d", "/d"}[p.dice(4)], 0))
	default:
		name := []string{"a", "b", "c", "d/a", "/a"}[p.dice(5)]
		dircalls.Call(p.World, pid, req(5, name, p.some(0, wr, both, both, wr|api.OTrunc)|more|p.some(0, api.OCreat, api.OCreat)))
	}
}

// other does something that is none of this chapter's calls.
func (p *player) other(pid int) {
	fd := p.fd(pid)
	switch p.dice(14) {
	case 0:
		p.Fork(pid, false)
	case 1:
		if p.Fits(pid, 1, 1) == api.OK {
			if child, e := p.Fork(pid, true); e == api.OK {
				p.Open(pid, api.KProc, child, 0, slots.Full(1))
			}
		}
	case 2:
		if p.dice(4) == 0 {
			p.End(pid, 3)
			p.Procs().Wait(1, 0)
		}
	case 3:
		if p.dice(4) == 0 {
			p.Procs().Enter(pid)
		}
	case 4:
		p.Slots(pid).Limit(fd, api.CapAll&^(1<<p.dice(32)))
	case 5:
		if p.dice(3) == 0 {
			p.Slots(pid).LimitIoctls(fd, []int{p.dice(3)})
			p.Slots(pid).LimitFcntls(fd, 8<<p.dice(4))
		}
	case 6:
		dircalls.Call(p.World, pid, req(12, "d"))
	case 7:
		dircalls.Call(p.World, pid, req(p.some(9, 13, 10), []string{"a", "b", "d", "d/a"}[p.dice(4)]))
	case 8, 9:
		p.passes(pid)
	case 10:
		if _, f, e := p.Look(pid, fd, 0); e == api.OK && f.Kind == api.KSock && p.dice(3) == 0 {
			l, _ := p.Socks().Shut(f.Obj, p.dice(3))
			p.Drop(l)
		}
	default:
		p.opens(pid)
	}
}

// passes sends descriptors through one of a process's sockets.
func (p *player) passes(pid int) {
	for range 9 {
		_, f, e := p.Look(pid, p.fd(pid), 0)
		if e != api.OK || f.Kind != api.KSock {
			continue
		}
		var l []api.Passed
		for range 1 + p.dice(3) {
			if x, e := p.Pass(pid, p.fd(pid)); e == api.OK {
				l = append(l, x)
			}
		}
		if _, e := p.Socks().Send(f.Obj, []byte(strings.Repeat("s", 1+p.dice(4))), l); e != api.OK {
			p.Drop(l)
		}
		return
	}
}

// wrongs are what each call is told in a long row, besides OK.
var wrongs = map[int][]api.Errno{
	read:   {api.EISDIR, api.EOPNOTSUPP, api.EBADF, api.EWAIT, api.EAGAIN, api.ENOTCONN, api.ENOTCAPABLE, api.EINVAL},
	write:  {api.EOPNOTSUPP, api.EBADF, api.EWAIT, api.EAGAIN, api.EPIPE, api.ENOTCONN, api.ENOSPC, api.EFBIG, api.ENOTCAPABLE},
	pread:  {api.EISDIR, api.ESPIPE, api.EBADF, api.ENOTCAPABLE},
	pwrite: {api.ESPIPE, api.EBADF, api.ENOSPC, api.ENOTCAPABLE},
	closes: {api.EBADF}, dup: {api.EBADF, api.EMFILE}, dup2: {api.EBADF},
	fcntl:     {api.EBADF, api.EINVAL, api.ENOTCAPABLE, api.EMFILE},
	ioctl:     {api.EBADF, api.EINVAL, api.ENOTTY, api.ENOTCAPABLE},
	lseek:     {api.EBADF, api.ESPIPE, api.EINVAL, api.ENOTCAPABLE},
	ftruncate: {api.EBADF, api.EINVAL, api.EFBIG, api.ENOTCAPABLE},
	fsync:     {api.EBADF, api.EINVAL, api.ENOTCAPABLE},
	getdents:  {api.EBADF, api.ENOTDIR, api.ENOENT, api.ENOTCAPABLE},
	fstat:     {api.EBADF, api.ENOTCAPABLE},
}

// P19.1 to P19.7: long rows of calls by several processes, in worlds with much room and little, with other things between them.
func TestLongRowsAgainstPlain(t *testing.T) {
	t.Parallel()
	count := map[string]int{}
	for seed := range 400 {
		dice := dice(uint64(seed))
		l := api.Limits{Procs: 1 + dice(4), Fds: 2 + dice(14), Files: 4 + dice(20), Inodes: 2 + dice(6), Blocks: dice(12), Pipe: 1 + dice(80), Sock: 1 + dice(80)}
		w := world.New(l)
		u := &player{w, dice}
		p := newPlain(w)
		for range 300 {
			pid := 1
			for range 9 {
				if pid = 1 + dice(w.Procs().Numbers()); w.Procs().Lives(pid) {
					break
				}
			}
			if w.Procs().Lives(pid) && (dice(6) == 0 || len(w.Slots(pid).All()) == 0 && dice(3) > 0) {
				u.other(pid)
				p.sees(w)
				continue
			}
			r := req(u.some(chapter...), "", dice(9))
			if w.Procs().Lives(pid) {
				r = u.request(pid)
			}
			x, changed := same(t, p, w, pid, r)
			count[fmt.Sprint(r.No, int(x.Err), changed)]++
		}
	}
	seen := func(no int, e api.Errno, changed bool) {
		if count[fmt.Sprint(no, int(e), changed)] == 0 {
			t.Errorf("no call %d was told %v, with a change: %v", no, e, changed)
		}
	}
	for _, no := range chapter {
		seen(no, api.ESRCH, false)
		seen(no, api.OK, no != pread && no != fstat && no != fsync)
		for _, e := range wrongs[no] {
			seen(no, e, false)
		}
	}
}

// P19.1, P19.6: requests of any numbers, texts and lists end, and what is handed in stays as it is.
func TestAnyRequest(t *testing.T) {
	t.Parallel()
	dice := dice(7)
	some := func(l ...int) int { return l[dice(len(l))] }
	text := func() string {
		return []string{"", "", "", "", "a", "ab\x00", "\xff\xfe", strings.Repeat("x", 256), strings.Repeat("x", 257), strings.Repeat("/", 4097)}[dice(10)]
	}
	w := scene(t)
	p := newPlain(w)
	for range 10000 {
		r := api.Req{No: some(append(noCalls, chapter...)...), S: text()}
		if dice(2) == 0 {
			r.No = some(chapter...)
		}
		for i := range 1 + dice(4) {
			r.A[i] = some(0, 0, 0, 1, 1, 2, api.AtCwd, -1, free, 64, math.MinInt, math.MaxInt, dice(1<<20), dice(free), dice(free))
		}
		switch dice(20) {
		case 0:
			r.L = []int{1, 2}
		case 1:
			r.T = text()
		}
		if _, changed := same(t, p, w, some(first, first, second, capable, ended, nobody, 0, -1, math.MinInt, math.MaxInt), r); changed {
			w = scene(t)
			p = newPlain(w)
		}
		if len(r.L) > 0 && (r.L[0] != 1 || r.L[1] != 2) {
			t.Fatal("the list is changed")
		}
	}
}

// P19.6: what would wait and what tells an error changes nothing, how often it is asked; and it is told again.
func TestAskedAgain(t *testing.T) {
	t.Parallel()
	w, v := scene(t), scene(t)
	was := w.Dump()
	asks := 0
	for fd := -1; fd <= free; fd++ {
		for _, r := range requests(fd) {
			x := Call(v, first, r)
			if x.Err == api.OK {
				v = scene(t)
				continue
			}
			asks++
			for range 2 {
				if y := Call(w, first, r); y.Err != x.Err || y.Val != 0 || y.S != "" || len(y.L) > 0 {
					t.Fatalf("%v: %v, and then %v", r, x, y)
				}
			}
		}
	}
	if !alike(was, w.Dump()) {
		t.Error("something is changed")
	}
	if asks < 5000 {
		t.Errorf("just %d errors", asks)
	}
}
