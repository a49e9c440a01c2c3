package ipccalls

import (
	"fmt"
	"math"
	"slices"
	"strings"
	"testing"

	"purlieu/api"
	"purlieu/dircalls"
	"purlieu/slots"
	"purlieu/world"
)

// same does a call, and tells its answer, and whether it and what is there then is what the chapter says; and whether something is another one.
func same(t *testing.T, p *plain, w *world.World, pid int, r api.Req) (api.Res, bool) {
	t.Helper()
	was := w.Dump()
	l := slices.Clone(r.L)
	x := p.call(pid, r)
	got := Call(w, pid, r)
	now := w.Dump()
	if got.Val != x.Val || got.Err != x.Err || got.S != x.S || !slices.Equal(got.L, x.L) || !alike(now, p.d) {
		t.Fatalf("%d: %v: %v, not %v; there is\n%q\nnot\n%q\nfrom\n%q", pid, r, got, x, more(lines(now), lines(p.d)), more(lines(p.d), lines(now)), more(lines(was), lines(p.d)))
	}
	if !slices.Equal(l, r.L) {
		t.Fatalf("%v: the list was %v", r, l)
	}
	return got, !alike(now, was)
}

// requests answers each call of the chapter on a descriptor with numbers and paths of all kinds.
func requests(fd int) []api.Req {
	var l []api.Req
	for _, path := range []string{"", "x", "d/x", "x/", "d/s", "d/b", "d/w", "d/n", "d/lost", "d/in", "d/up", "d/abs", "d/new", "d/new/", "d/f", "d/f/", "d", "/", "/d/s", "../d/s", "none/x", "d/loop", "x\x00", "d/e/back"} {
		l = append(l, req(bind, path, fd), req(connect, path, fd), req(bindat, path, cwd, fd), req(connectat, path, cwd, fd), req(bindat, path, root, fd), req(connectat, path, root, fd))
	}
	for _, path := range []string{"x", "s", "up", "../x", "/d/s", "e/x", "lost", ""} {
		for _, d := range []int{dir, gone, file, one, free, -1} {
			l = append(l, req(bindat, path, d, fd), req(connectat, path, d, fd))
		}
	}
	for _, n := range []int{-1, 0, 1, 2, 3, 4, 5, 8, 9, 256, 257, 1 << 20, 1<<20 + 1} {
		l = append(l, req(listen, "", fd, n), req(accept, "", fd, n), req(shutdown, "", fd, n))
		for most := -1; most < 6; most++ {
			l = append(l, req(recv, "", fd, n, most))
		}
	}
	for _, s := range []string{"", "a", "abc", "abcdefgh", "abcdefghi"} {
		for _, with := range [][]int{nil, {file}, {fd}, {fd, fd}, {file, fd, proc, pipeW}, {file, free}, {-1}, {0, 1, 2, 3, 4}, {sent, full}} {
			l = append(l, sends(fd, s, with...))
		}
	}
	return append(l, req(pipe, "", fd), req(socket, "", fd), req(socketpair, "", fd), req(pipe, "", nonblock), req(socket, "", 0), req(socketpair, "", nonblock), req(pipe, "x"), req(socket, "", 0, 1))
}

// P20.1 to P20.6: each call on each descriptor with all kinds of numbers and paths, by each process, with much room and little, with and without ONonblock: what it answers, and all there is behind it.
func TestEachCallAgainstPlain(t *testing.T) {
	t.Parallel()
	for i, change := range []func(t *testing.T, w *world.World){
		func(*testing.T, *world.World) {},
		func(t *testing.T, w *world.World) {
			nonblocks(w)
			for pid := first; pid <= capable; pid++ {
				spare(t, w, pid, 1, 1)
			}
		},
		func(t *testing.T, w *world.World) {
			spare(t, w, first, 1, 0)
			s := w.Slots(first)
			must(t, "limit", s.Limit(dir, api.CapLookup|api.CapBindat|api.CapConnectat))
			must(t, "limit", s.Limit(root, api.CapAll&^api.CapBindat))
			must(t, "limit", s.Limit(one, api.CapWrite))
			must(t, "limit", s.Limit(sent, api.CapRead))
			must(t, "limit", s.Limit(fresh, api.CapAll&^api.CapBind))
			must(t, "limit", s.Limit(busy, api.CapAll&^api.CapAccept))
		},
		func(t *testing.T, w *world.World) {
			for pid := first; pid <= capable; pid++ {
				spare(t, w, pid, 0, 5)
			}
			must(t, "move", w.Move(first, 15))
			must(t, "enter", w.Procs().Enter(second))
		},
	} {
		t.Run(fmt.Sprint(i), func(t *testing.T) {
			t.Parallel()
			ready := func() (*world.World, *plain) {
				w := scene(t)
				change(t, w)
				return w, newPlain(w)
			}
			w, p := ready()
			for fd := -1; fd <= free; fd++ {
				for j, r := range requests(fd) {
					pid := []int{first, first, capable, first, second, first, ended, nobody}[j%8]
					if _, changed := same(t, p, w, pid, r); changed {
						w, p = ready()
					}
				}
			}
		})
	}
}

// player makes requests such as come, in a world that changes.
type player struct {
	*world.World
	dice func(n int) int
}

// dice answers a roller of numbers below n, always the same row of them.
func dice(seed uint64) func(n int) int {
	return func(n int) int {
		seed = seed*6364136223846793005 + 1442695040888963407
		return int(seed >> 33 % uint64(n))
	}
}

// some answers one of l.
func (p *player) some(l ...int) int { return l[p.dice(len(l))] }

// fd answers a number, mostly of a descriptor that there is.
func (p *player) fd(pid int) int {
	if l := p.Slots(pid).All(); len(l) > 0 && p.dice(15) > 0 {
		return p.some(l...)
	}
	return p.dice(p.Limits().Fds+2) - 1
}

// of answers a descriptor that is open of such a thing, mostly; of a socket one that has such a state.
func (p *player) of(pid, kind, state int) int {
	for range 20 {
		fd := p.fd(pid)
		_, f, e := p.Look(pid, fd, 0)
		if e == api.OK && f.Kind == kind && (kind != api.KSock || p.Socks().State(f.Obj) == state) {
			return fd
		}
	}
	return p.fd(pid)
}

// path answers a path, through few names, so that much of it is there.
func (p *player) path() string {
	if p.dice(20) == 0 {
		return []string{"", "/", "..", "../a", "/d/a", "a/", "\x00", strings.Repeat("a", 33), strings.Repeat("./", 129), "/a"}[p.dice(10)]
	}
	names := []string{"a", "b", "c", "d/a", "d/b", "a", "b"}
	return names[p.dice(len(names))]
}

// request answers a request of this chapter.
func (p *player) request(pid int) api.Req {
	no := p.some(chapter...)
	if p.dice(3) > 0 {
		no = p.some(send, recv, send, recv, accept, connect, connectat, listen, bind)
	}
	joined := p.of(pid, api.KSock, api.SockJoined)
	r := req(no, "", joined)
	door := p.some(p.of(pid, api.KSock, api.SockFresh), p.of(pid, api.KSock, api.SockListens), p.of(pid, api.KSock, api.SockListens), p.fd(pid))
	k := p.some(0, 0, nonblock)
	switch no {
	case pipe, socket, socketpair:
		r.A[0] = k
	case bind, connect:
		r.A[0], r.S = p.some(p.of(pid, api.KSock, api.SockFresh), p.fd(pid)), p.path()
	case bindat, connectat:
		r.A[0], r.A[1], r.S = p.some(cwd, p.of(pid, api.KDir, 0), p.of(pid, api.KDir, 0), p.fd(pid)), p.some(p.of(pid, api.KSock, api.SockFresh), p.fd(pid)), p.path()
	case listen:
		r.A[0], r.A[1] = door, p.dice(11)
	case accept:
		r.A[0], r.A[1] = door, k
	case shutdown:
		r.A[1] = p.dice(3)
	case send:
		r.S = strings.Repeat(string(rune('a'+p.dice(26))), p.some(0, 1, 1, 2, p.dice(9), p.dice(40), p.dice(257)))
		for range p.some(0, 0, 1, 2, p.dice(5)) {
			r.L = append(r.L, p.fd(pid))
		}
	case recv:
		r.A[1], r.A[2] = p.some(0, 1, 2, p.dice(9), p.dice(70), 256), p.dice(5)
	}
	if p.dice(150) == 0 {
		r.A[p.dice(5)]++
	}
	return r
}

// other does something that is none of this chapter's calls.
func (p *player) other(pid int) {
	fd := p.fd(pid)
	switch p.dice(15) {
	case 0:
		p.Fork(pid, false)
	case 1:
		if p.Fits(pid, 1, 1) == api.OK {
			if child, e := p.Fork(pid, true); e == api.OK {
				p.Open(pid, api.KProc, child, 0, slots.Full(1))
			}
		}
	case 2:
		if p.dice(4) == 0 {
			p.End(pid, 3)
			p.Procs().Wait(1, 0)
		}
	case 3:
		if p.dice(4) == 0 {
			p.Procs().Enter(pid)
		}
	case 4:
		p.Slots(pid).Limit(fd, api.CapAll&^(1<<p.dice(32)))
	case 5:
		p.Slots(pid).LimitIoctls(fd, []int{p.dice(3)})
		p.Slots(pid).LimitFcntls(fd, 8<<p.dice(4))
	case 6:
		dircalls.Call(p.World, pid, req(12, "d"))
		dircalls.Call(p.World, pid, req(5, []string{"/", ".", "d", "/d"}[p.dice(4)], 0))
	case 7:
		dircalls.Call(p.World, pid, req(p.some(9, 13, 10), p.path()))
	case 8:
		if r := req(p.some(8, 22, 24), p.path()); true { // link, symlink, rename
			r.T = p.path()
			dircalls.Call(p.World, pid, r)
		}
	case 9:
		if _, f, e := p.Look(pid, fd, 0); e == api.OK {
			p.Files().SetFlags(f.ID, p.some(0, nonblock))
		}
	case 10:
		p.Dup(pid, fd, 0)
	default:
		p.Close(pid, fd)
	}
}

// limits answers how much there may be: much or little.
func limits(dice func(n int) int) api.Limits {
	return api.Limits{Procs: 1 + dice(4), Fds: 2 + dice(14), Files: 3 + dice(24), Inodes: 1 + dice(8), Blocks: 0, Pipe: 1 + dice(9), Sock: 1 + dice(60)}
}

// wrongs are what each call is told in a long row, besides OK.
var wrongs = map[int][]api.Errno{
	pipe: {api.EMFILE, api.ENFILE, api.EINVAL}, socket: {api.EMFILE, api.ENFILE, api.EINVAL}, socketpair: {api.EMFILE, api.ENFILE, api.EINVAL},
	bind:      {api.EBADF, api.ENOTSOCK, api.ENOTCAPABLE, api.ECAPMODE, api.EINVAL, api.EADDRINUSE, api.ENOENT, api.ENOSPC, api.ENAMETOOLONG, api.ENOTDIR},
	bindat:    {api.EBADF, api.ENOTSOCK, api.ENOTCAPABLE, api.ECAPMODE, api.EINVAL, api.EADDRINUSE, api.ENOENT, api.ENOSPC, api.ENAMETOOLONG, api.ENOTDIR},
	listen:    {api.EBADF, api.ENOTSOCK, api.ENOTCAPABLE, api.EINVAL},
	connect:   {api.EBADF, api.ENOTSOCK, api.ENOTCAPABLE, api.ECAPMODE, api.EISCONN, api.EOPNOTSUPP, api.ECONNREFUSED, api.ENOENT, api.ENOTDIR, api.ELOOP, api.ENAMETOOLONG},
	connectat: {api.EBADF, api.ENOTSOCK, api.ENOTCAPABLE, api.ECAPMODE, api.EISCONN, api.EOPNOTSUPP, api.ECONNREFUSED, api.ENOENT, api.ENOTDIR, api.ELOOP, api.ENAMETOOLONG},
	accept:    {api.EBADF, api.ENOTSOCK, api.ENOTCAPABLE, api.EINVAL, api.EWAIT, api.EAGAIN, api.EMFILE, api.ENFILE},
	shutdown:  {api.EBADF, api.ENOTSOCK, api.ENOTCAPABLE, api.ENOTCONN},
	send:      {api.EBADF, api.ENOTSOCK, api.ENOTCAPABLE, api.EINVAL, api.ENOTCONN, api.EPIPE, api.EWAIT, api.EAGAIN},
	recv:      {api.EBADF, api.ENOTSOCK, api.ENOTCAPABLE, api.EMFILE, api.ENOTCONN, api.EWAIT, api.EAGAIN},
}

// P20.1 to P20.6: long rows of calls by several processes, in worlds with much room and little, with other things between them.
func TestLongRowsAgainstPlain(t *testing.T) {
	t.Parallel()
	count := map[string]int{}
	for seed := range 600 {
		dice := dice(uint64(seed))
		w := world.New(limits(dice))
		u := &player{w, dice}
		p := newPlain(w)
		for range 300 {
			pid := 1
			for range 9 {
				if pid = 1 + dice(w.Procs().Numbers()); w.Procs().Lives(pid) {
					break
				}
			}
			if w.Procs().Lives(pid) && dice(5) == 0 {
				u.other(pid)
				p.sees(w)
				continue
			}
			r := req(u.some(chapter...), "", dice(9))
			if w.Procs().Lives(pid) {
				r = u.request(pid)
			}
			x, changed := same(t, p, w, pid, r)
			count[fmt.Sprint(r.No, int(x.Err), changed)]++
			count[fmt.Sprint(r.No, "with", len(x.L))]++
		}
	}
	seen := func(what string) {
		if count[what] == 0 {
			t.Errorf("not in any row: %s", what)
		}
	}
	for _, no := range chapter {
		seen(fmt.Sprint(no, int(api.ESRCH), false))
		seen(fmt.Sprint(no, 0, true))
		for _, e := range wrongs[no] {
			seen(fmt.Sprint(no, int(e), false))
		}
	}
	for n := range 5 {
		seen(fmt.Sprint(recv, "with", n))
	}
}

// P20.1, P20.5: requests of any numbers, texts and lists end, and what is handed in stays as it is.
func TestAnyRequest(t *testing.T) {
	t.Parallel()
	dice := dice(7)
	some := func(l ...int) int { return l[dice(len(l))] }
	text := func() string {
		return []string{"", "", "", "", "a", "d/s", "ab\x00", "\xff\xfe", strings.Repeat("x", 256), strings.Repeat("x", 257), strings.Repeat("/", 4097)}[dice(11)]
	}
	w := scene(t)
	p := newPlain(w)
	for range 15000 {
		r := api.Req{No: some(append(noCalls, chapter...)...), S: text()}
		if dice(2) == 0 {
			r.No = some(chapter...)
		}
		for i := range 1 + dice(4) {
			r.A[i] = some(0, 0, 0, 1, 1, 2, cwd, -1, free, 64, math.MinInt, math.MaxInt, dice(1<<20), dice(free), dice(free))
		}
		switch dice(10) {
		case 0, 1:
			for range dice(6) {
				r.L = append(r.L, some(dice(free), dice(free), -1, free, math.MaxInt, math.MinInt))
			}
		case 2:
			r.T = text()
		}
		if _, changed := same(t, p, w, some(first, first, second, capable, ended, nobody, 0, -1, math.MinInt, math.MaxInt), r); changed {
			w = scene(t)
			p = newPlain(w)
		}
	}
}
