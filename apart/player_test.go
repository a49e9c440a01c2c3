package apart

import (
	"math"
	"slices"
	"strings"

	"purlieu/api"
	"purlieu/calls"
	"purlieu/kernel"
	"purlieu/world"
)

// dice answers a roller of numbers below n, always the same row of them.
func dice(seed uint64) func(n int) int {
	return func(n int) int {
		seed = seed*6364136223846793005 + 1442695040888963407
		return int(seed >> 33 % uint64(n))
	}
}

// player makes steps such as come, in a world that changes; now is all there is behind the last one.
type player struct {
	w    *world.World
	now  api.Dump
	done []api.Step
	dice func(n int) int
}

// limits answers how much there may be: much or little.
func limits(dice func(n int) int) api.Limits {
	return api.Limits{Procs: 2 + dice(6), Fds: 4 + dice(14), Files: 5 + dice(30), Inodes: 2 + dice(10), Blocks: 1 + dice(6), Pipe: 1 + dice(6), Sock: 1 + dice(3+dice(16))}
}

// begins answers a player in a new world.
func begins(l api.Limits, dice func(n int) int) *player {
	w := world.New(l)
	return &player{w, w.Dump(), nil, dice}
}

// does does a step.
func (p *player) does(s api.Step) api.Out {
	o := kernel.Step(p.w, s)
	p.now, p.done = p.w.Dump(), append(p.done, s)
	return o
}

// some answers one of l.
func (p *player) some(l ...int) int { return l[p.dice(len(l))] }

// who answers a number of a process, mostly of one that lives and doesn't wait.
func (p *player) who() int {
	if p.dice(50) == 0 {
		return p.dice(len(p.now.Procs)+3) - 1
	}
	pid := 1
	for range 6 {
		x := p.now.Procs[p.dice(len(p.now.Procs))]
		waits := slices.ContainsFunc(p.now.Parks, func(y api.Park) bool { return y.Pid == x.Pid })
		if pid = x.Pid; x.Lives && !waits {
			break
		}
	}
	return pid
}

// among answers a descriptor that is open of such a thing, if there is one, mostly.
func (p *player) among(pid int, such func(f api.File) bool) int {
	var l []int
	for _, x := range p.now.Held {
		if x.Pid == pid && slices.ContainsFunc(p.now.Files, func(f api.File) bool { return f.ID == x.Slot.File && such(f) }) {
			l = append(l, x.Fd)
		}
	}
	if len(l) == 0 || p.dice(25) == 0 {
		return p.some(-1, 0, p.dice(p.w.Limits().Fds+1))
	}
	return p.some(l...)
}

// of answers a descriptor that is open of a thing of this kind; of 0, of any.
func (p *player) of(pid, kind int) int {
	return p.among(pid, func(f api.File) bool { return kind == 0 || f.Kind == kind })
}

// at answers a descriptor of such a socket.
func (p *player) at(pid int, such func(x api.Sock) bool) int {
	return p.among(pid, func(f api.File) bool {
		return f.Kind == api.KSock && slices.ContainsFunc(p.now.Socks, func(x api.Sock) bool { return x.ID == f.Obj && such(x) })
	})
}

// descriptor answers a descriptor of what this call is of, mostly.
func (p *player) descriptor(pid, no int) int {
	switch group := calls.Group(no); {
	case p.dice(10) == 0 || group == "capcalls":
		return p.of(pid, 0)
	case group == "proccalls":
		return p.of(pid, api.KProc)
	case no == recv && p.dice(6) > 0:
		return p.at(pid, func(x api.Sock) bool { return len(x.Parts) > 0 })
	case no == accept && p.dice(6) > 0:
		return p.at(pid, func(x api.Sock) bool { return len(x.Waits) > 0 })
	case (no == send || no == shutdown) && p.dice(6) > 0:
		return p.at(pid, func(x api.Sock) bool { return x.Peer != 0 })
	case no == listen && p.dice(6) > 0:
		return p.at(pid, func(x api.Sock) bool { return x.Bound != 0 })
	case slices.Contains([]int{bind, bindat, connect, connectat}, no):
		return p.at(pid, func(x api.Sock) bool { return x.State == api.SockFresh })
	case group == "ipccalls":
		return p.of(pid, api.KSock)
	case no == ftruncate:
		return p.of(pid, api.KFile)
	case no == read || no == write:
		return p.of(pid, p.some(api.KPipe, api.KSock, api.KFile, api.KFile))
	}
	return p.of(pid, 0)
}

// letter answers a number for a small letter of a call's shape.
func (p *player) letter(c rune, pid, no int) int {
	switch c {
	case 'f':
		return p.descriptor(pid, no)
	case 'd':
		return p.some(api.AtCwd, p.of(pid, api.KDir), p.of(pid, api.KDir), p.of(pid, api.KDir), p.of(pid, api.KDir))
	case 'g':
		return p.some(0, 0, api.OCreat, api.OCreat|api.OBoth, api.OCreat|api.OBoth, api.OCreat|api.OExcl, api.ODirectory, api.OBoth|api.OTrunc)
	case 'x':
		return p.some(0, 0, 4, p.dice(6), p.dice(18), p.of(pid, 0), p.who(), -1)
	case 'n':
		return p.some(1, 1, 2, 9, p.dice(12))
	case 'o', 'i':
		return p.dice(200)
	case 'b':
		return p.some(0, 1, 2, 3)
	case 'm':
		return p.some(0, 1, 2, 4, 4, 4)
	case 'c', 'w', 'e', 'h':
		return p.dice(3)
	case 'u':
		return p.some(0, 0, 1)
	case 's':
		return p.some(0, 9)
	case 'k':
		return p.some(0, api.ONonblock)
	}
	return 0
}

// names of what there is, mostly: of what groups have, and of what others have.
const (
	names  = "a a b b c c d e e d/e d/a d/b d/e/a d/e/c e/a e/b e/c e/d .. . ../a / /d /d/e/c b/c c/.. d/e/.."
	others = "o o p q o/p o/q /o/p /o/q o/p/q /c/o c /c/p o o/. /o ../o o/.. / x"
)

// path answers a path, often a name that there is; of those that are not in capability mode, mostly one of what groups have not.
func (p *player) path(pid int) string {
	if !p.confined(pid) && p.dice(12) > 0 {
		return p.name(strings.Split(others, " ")...)
	}
	if x := p.now.Inodes[p.dice(len(p.now.Inodes))]; len(x.Names) > 0 && p.dice(2) == 0 {
		return x.Names[p.dice(len(x.Names))]
	}
	return p.name(strings.Split(names, " ")...)
}

// confined tells whether a process is in capability mode.
func (p *player) confined(pid int) bool {
	return slices.ContainsFunc(p.now.Procs, func(x api.Proc) bool { return x.Pid == pid && x.Cap })
}

// like answers a request of this number, as its shape asks for it.
func (p *player) like(pid, no int) api.Req {
	r := api.Req{No: no}
	call, _ := calls.Get(no)
	at := 0
	for _, c := range call.Shape {
		if c >= 'a' {
			r.A[at] = p.letter(c, pid, no)
			at++
		}
		switch c {
		case 'S', 'Y':
			r.S = p.path(pid)
		case 'T':
			r.T = p.path(pid)
		case 'B':
			r.S = strings.Repeat("a", p.some(1, 2, p.dice(9), p.dice(200)))
		case 'L':
			for range p.some(0, 0, 1, 2, 4) {
				r.L = append(r.L, p.of(pid, 0))
			}
		case 'R':
			left := api.CapAll &^ (1 << p.dice(32) << p.dice(3)) &^ (1 << p.dice(32))
			r.L = []int{1<<57 + int(left%(1<<20)), 1<<58 + int(left>>20)}
		case 'I':
			r.L = []int{p.dice(3), 2}
		case 'P':
			for range p.some(1, 1, 2) {
				r.L = append(r.L, p.of(pid, p.some(api.KPipe, api.KSock, api.KProc)), 1+p.dice(3))
			}
		}
	}
	if slices.Contains([]int{bind, bindat, connect, connectat}, no) && p.dice(2) == 0 {
		if r.S = p.name("b", "s", "e/s"); !p.confined(pid) {
			r.S = p.name("os", "o/s", "/c/s")
		}
	}
	return r
}

// name answers one of these.
func (p *player) name(l ...string) string { return l[p.dice(len(l))] }

// request answers a request: often of a call that changes what is beside the process, seldom of one that ends a process or can't be undone; seldom one that can't be.
func (p *player) request(pid int) api.Req {
	no := 1 + p.dice(api.Calls)
	if p.dice(3) > 0 {
		no = p.some(openat, openat, openat, mkdirat, mkdirat, unlinkat, unlinkat, unlinkat, renameat, renameat, renameat, linkat, symlinkat, write, write, write, ftruncate,
			sock, sock, pair, bindat, listen, connectat, connectat, accept, accept, send, send, recv, shutdown, pipe, fork, pdfork, pdkill, pdwait, dup, dup2, shut, shut, shut, open, mkdir, chdir)
	}
	if slices.Contains([]int{exit, kill, enter, wait}, no) && p.dice(4) > 0 {
		no = openat
	}
	if p.dice(8) == 0 && slices.ContainsFunc(p.now.Socks, func(x api.Sock) bool { return len(x.Waits) > 0 }) {
		no = accept
	}
	r := p.like(pid, no)
	for range 3 {
		if p.confined(pid) && shared(r) {
			r = p.like(pid, p.some(openat, mkdirat, unlinkat, renameat, linkat, symlinkat, bindat, connectat, accept, accept, send, write))
		}
	}
	switch p.dice(60) {
	case 0:
		r.A[p.dice(5)] += p.some(-1, 1, 1000, math.MinInt)
	case 1:
		r.No = p.some(0, 65, -1, math.MinInt, math.MaxInt)
	case 2:
		r.L = append(r.L, 1)
	case 3:
		r.S += "/x"
	}
	return r
}

// helps answers a request by which one that waits may come to what it waits for.
func (p *player) helps(pid int) api.Req {
	x := p.now.Parks[p.dice(len(p.now.Parks))]
	waits := p.now.Files[:0]
	for _, y := range p.now.Held {
		if i := slices.IndexFunc(p.now.Files, func(f api.File) bool { return f.ID == y.Slot.File }); y.Pid == x.Pid && y.Fd == x.Req.A[0] && i >= 0 {
			waits = p.now.Files[i : i+1]
		}
	}
	if len(waits) == 0 || p.dice(4) == 0 {
		return p.like(pid, p.some(write, write, read, send, recv, connect, shut, shutdown, pdkill, exit))
	}
	f := waits[0]
	if f.Kind == api.KPipe {
		fd := p.among(pid, func(g api.File) bool {
			return g.Kind == f.Kind && g.Obj == f.Obj && g.Flags&api.OWrite != f.Flags&api.OWrite
		})
		return p.either(says(write, "w", fd), says(read, "", fd, 9), asks(shut, fd))
	}
	fd := p.at(pid, func(x api.Sock) bool { return x.Peer == f.Obj })
	return p.either(says(send, "w", fd), says(recv, "", fd, 9), asks(shut, fd))
}

// either answers one of these requests.
func (p *player) either(l ...api.Req) api.Req { return l[p.dice(len(l))] }

// anything answers a request of any numbers, texts and lists.
func (p *player) anything() api.Req {
	r := api.Req{No: p.dice(68) - 1}
	for i := range p.dice(5) {
		r.A[i] = p.some(0, 0, 1, 1, 2, 3, 4, 5, -1, api.AtCwd, 256, math.MinInt, math.MaxInt)
	}
	for range p.some(0, 0, 0, 1, 2, 2, 4, 16, 17, 65) {
		r.L = append(r.L, p.some(0, 1, 1, 2, 3, -1, math.MinInt, math.MaxInt))
	}
	r.S = strings.Repeat("x", p.some(0, 0, 0, 1, 2, 33, 257, 4097))
	if p.dice(8) == 0 {
		r.T = strings.Repeat("/y", p.some(0, 1, 2, 2049))
	}
	return r
}

// step answers a step of any process.
func (p *player) step() api.Step { return p.stepOf(p.who()) }

// stepOf answers a step of a process.
func (p *player) stepOf(pid int) api.Step {
	switch {
	case p.dice(12) == 0:
		return api.Step{Pid: pid, Req: p.anything()}
	case len(p.now.Parks) > 0 && p.dice(3) == 0:
		return api.Step{Pid: pid, Req: p.helps(pid)}
	}
	return api.Step{Pid: pid, Req: p.request(pid)}
}

// shared tells whether a call names what all share, and so is refused in capability mode.
func shared(r api.Req) bool {
	switch r.No {
	case open, wait, link, unlink, chdir, mkdir, kill, 22, 23, 24, 28, bind, connect:
		return true
	}
	return slices.Contains([]int{openat, mkdirat, unlinkat, renameat, linkat, symlinkat, readlink, fstatat, bindat, connectat}, r.No) && (r.A[0] == api.AtCwd || r.A[1] == api.AtCwd)
}

// opens lets 1 make things, and leave them to children in capability mode, mostly.
func (p *player) opens() {
	does := func(l ...api.Req) (fd int) {
		for _, r := range l {
			fd = p.does(api.Step{Pid: 1, Req: r}).Res.Val
		}
		return fd
	}
	does(says(mkdir, "d"), says(mkdir, "d/e"), says(mkdir, "c"))
	for range p.dice(3) {
		does(asks(fork))
	}
	if p.dice(3) == 0 {
		does(says(chdir, p.name("c", "d", "d/e")))
	}
	for range 1 + p.dice(5) {
		switch p.dice(9) {
		case 0:
			does(asks(pipe))
		case 1:
			fd := does(asks(pair))
			does(gives(fd, p.some(0, 1, fd)))
		case 2:
			does(says(open, "/d/"+p.name("a", "b", "e/a"), api.OCreat|api.OBoth))
		case 3:
			fd := does(asks(sock))
			does(says(bind, "/d/"+p.name("s", "e/s"), fd), asks(listen, fd, 3), says(open, "/d"))
		case 4:
			does(says(open, "/d/e"))
		default:
			does(says(open, "/d"))
		}
	}
	p.leaves(1)
	if child := p.now.Next[0] - 1; p.dice(2) == 0 {
		p.does(api.Step{Pid: child, Req: asks(p.some(fork, pdfork))})
		if p.dice(2) == 0 {
			p.leaves(child)
		}
	}
	if p.dice(8) == 0 {
		fd := does(asks(pair))
		passed := does(says(open, p.name("/d", "/d", "/d/e")))
		does(gives(fd, passed), asks(shut, passed))
	}
	for _, r := range []api.Req{says(chdir, p.name("/", "c", "/")), says(mkdir, "/o"), says(open, "/o/p", api.OCreat|api.OBoth), asks(pair), asks(fork), asks(pipe)} {
		if p.dice(3) > 0 {
			does(r)
		}
	}
}

// leaves lets a process leave what it has to a child in capability mode, mostly.
func (p *player) leaves(pid int) {
	p.does(api.Step{Pid: pid, Req: asks(fork)})
	child := p.now.Next[0] - 1
	if p.dice(10) > 0 {
		p.does(api.Step{Pid: child, Req: asks(enter)})
	}
	for _, x := range p.now.Held {
		if x.Pid == pid && p.dice(30) > 0 {
			p.does(api.Step{Pid: pid, Req: asks(shut, x.Fd)})
		}
	}
}
