package run

import (
	"math"
	"slices"
	"strings"

	"purlieu/api"
	"purlieu/calls"
)

// dice answers a roller of numbers below n, always the same row of them.
func dice(seed uint64) func(n int) int {
	return func(n int) int {
		seed = seed*6364136223846793005 + 1442695040888963407
		return int(seed >> 33 % uint64(n))
	}
}

// player makes steps such as come, in a kernel that changes.
type player struct {
	*plain
	dice func(n int) int
}

// some answers one of l.
func (p *player) some(l ...int) int { return l[p.dice(len(l))] }

// fd answers a number, mostly of a descriptor that there is.
func (p *player) fd(pid int) int {
	if l := sorted(p.fds[pid]); len(l) > 0 && p.dice(25) > 0 {
		return p.some(l...)
	}
	return p.some(-1, p.l.Fds-1, p.l.Fds, p.dice(p.l.Fds))
}

// that answers a descriptor of which this holds, if there is one, mostly.
func (p *player) that(pid int, holds func(f api.File) bool) int {
	var l []int
	for _, fd := range sorted(p.fds[pid]) {
		if holds(p.files[p.fds[pid][fd].File]) {
			l = append(l, fd)
		}
	}
	if len(l) == 0 || p.dice(20) == 0 {
		return p.fd(pid)
	}
	return p.some(l...)
}

// of answers a descriptor that is open of such a thing, mostly.
func (p *player) of(pid, kind int) int {
	return p.that(pid, func(f api.File) bool { return f.Kind == kind })
}

// sock answers a descriptor of a socket in such a state, mostly.
func (p *player) sock(pid int, holds func(x api.Sock) bool) int {
	return p.that(pid, func(f api.File) bool { return f.Kind == api.KSock && holds(p.socks[f.Obj]) })
}

// who answers a number of a process, mostly of one that lives.
func (p *player) who() int {
	if p.dice(40) == 0 {
		return p.dice(p.next[nextProc]+3) - 2
	}
	l := sorted(p.procs)
	for range 4 {
		if pid := p.some(l...); p.procs[pid].Lives {
			return pid
		}
	}
	return p.some(l...)
}

// descriptor answers a descriptor of what this call is of, mostly.
func (p *player) descriptor(pid int, name string) int {
	if p.dice(10) == 0 {
		return p.fd(pid)
	}
	switch name {
	case "read", "write":
		return p.of(pid, p.some(api.KPipe, api.KSock, api.KFile))
	case "pread", "pwrite", "ftruncate", "lseek", "fsync":
		return p.of(pid, api.KFile)
	case "getdents", "fchdir":
		return p.of(pid, api.KDir)
	case "pdgetpid", "pdkill", "pdwait":
		return p.of(pid, api.KProc)
	case "bind", "bindat", "connect", "connectat":
		return p.sock(pid, func(x api.Sock) bool { return x.State == api.SockFresh })
	case "listen":
		return p.sock(pid, func(x api.Sock) bool { return x.Bound > 0 })
	case "accept":
		return p.sock(pid, func(x api.Sock) bool { return x.State == api.SockListens })
	case "shutdown", "send", "recv":
		return p.sock(pid, func(x api.Sock) bool { return x.State == api.SockJoined })
	}
	return p.fd(pid)
}

var names = []string{"a", "b", "c", "d", "e", "f"}

// path answers a path from a directory, mostly of something that is there, or may be.
func (p *player) path(dir int) string {
	var l []string
	s := ""
	if p.dice(10) == 0 {
		dir, s = root, "/"
	}
	for p.dice(4) > 0 {
		n := p.nodes[dir].told(dir)
		switch x := p.dice(12); {
		case x == 0:
			l = append(l, ".")
		case x == 1:
			l, dir = append(l, ".."), p.nodes[dir].parent
		case len(n.Names) > 0 && x < 9:
			i := p.dice(len(n.Names))
			l, dir = append(l, n.Names[i]), n.Inos[i]
		}
	}
	if len(l) == 0 || p.dice(3) == 0 {
		l = append(l, names[p.dice(len(names))])
	}
	s += strings.Join(l, "/")
	switch p.dice(40) {
	case 0, 1:
		return s + "/"
	case 2:
		return []string{"", "/", "a\x00", strings.Repeat("x", 33), strings.Repeat("/x", 129), "//" + s, s + "//b", "./" + s}[p.dice(8)]
	}
	return s
}

// from answers the directory from which the nth path of a request is gone.
func (p *player) from(pid int, shape string, r api.Req, nth int) int {
	at := 0
	if nth == 1 && strings.HasPrefix(shape, "dd") {
		at = 1
	}
	f := p.files[p.fds[pid][r.A[at]].File]
	if strings.HasPrefix(shape, "d") && f.Kind == api.KDir {
		return f.Obj
	}
	return p.procs[pid].Cwd
}

// flags answers flags of open.
func (p *player) flags() int {
	n := p.some(0, 0, api.OWrite, api.OBoth, api.OBoth)
	for _, bit := range []int{api.OCreat, api.OCreat, api.OTrunc, api.OExcl, api.ONofollow, api.ODirectory, api.OAppend, api.ONonblock} {
		if p.dice(6) == 0 {
			n |= bit
		}
	}
	return n
}

// letter answers a number for a small letter of a call's shape.
func (p *player) letter(c rune, pid int, name string) int {
	switch c {
	case 'f':
		return p.descriptor(pid, name)
	case 'd':
		return p.some(api.AtCwd, p.of(pid, api.KDir), p.of(pid, api.KDir))
	case 'g':
		return p.flags()
	case 'x':
		return p.some(0, 1, 2, 3, 4, 4, 8, p.dice(8), p.who(), p.who(), -1)
	case 'n':
		return p.some(1, 1, 2, 9, p.dice(12), 256)
	case 'o':
		return p.some(0, p.dice(140), p.dice(140), 64, 63, 65, 65536, 65537)
	case 'i':
		return p.some(0, 0, 1, -1, p.dice(140), -p.dice(140), 65536, math.MinInt, math.MaxInt)
	case 'b':
		return p.some(0, 1, 2, 2, 3, 9, 9)
	case 'e', 's':
		return p.some(0, 0, 9, 15)
	case 'm', 'w', 'h', 'c':
		return p.dice(3)
	case 'u':
		return p.some(0, 0, 1)
	case 'k':
		return p.some(0, 0, 0, api.ONonblock)
	}
	return 0
}

// rights answers the raw words of rights, mostly of nearly all that a descriptor has.
func (p *player) rights(pid, fd int) []int {
	r := p.fds[pid][fd].Rights
	for range p.dice(4) {
		r &^= 1 << p.dice(32)
	}
	switch p.dice(12) {
	case 0:
		r |= 1 << p.dice(32)
	case 1:
		return []int{p.dice(9), 1 << 58}
	}
	return words(r)
}

// list answers a list for a great letter of a call's shape.
func (p *player) list(c rune, pid, fd int) (l []int) {
	switch c {
	case 'L':
		for range p.some(0, 0, 0, 1, 1, 2, 4) {
			l = append(l, p.fd(pid))
		}
	case 'R':
		return p.rights(pid, fd)
	case 'I':
		for range p.dice(4) {
			l = append(l, p.dice(4))
		}
	case 'P':
		for range p.some(0, 1, 1, 2, 3) {
			l = append(l, p.fd(pid), 1+p.dice(3))
		}
	}
	return l
}

// like answers a request of this number, as its shape asks for it.
func (p *player) like(pid, no int) api.Req {
	r := api.Req{No: no}
	call, _ := calls.Get(no)
	at := 0
	for _, c := range call.Shape {
		if c >= 'a' {
			r.A[at] = p.letter(c, pid, call.Name)
			at++
		}
		switch c {
		case 'S', 'Y':
			r.S = p.path(p.from(pid, call.Shape, r, 0))
		case 'T':
			r.T = p.path(p.from(pid, call.Shape, r, 1))
		case 'B':
			r.S = strings.Repeat("abcdefgh", 32)[:p.some(0, 1, 1, 2, p.dice(9), p.dice(9), 65, 256)]
		case 'L', 'R', 'I', 'P':
			r.L = p.list(c, pid, r.A[0])
		}
	}
	if strings.HasPrefix(call.Name, "connect") && p.dice(3) > 0 {
		r.S = p.listens(p.from(pid, call.Shape, r, 0), r.S)
	}
	return r
}

// listens answers the name of a socket that listens in a directory, if there is one.
func (p *player) listens(dir int, other string) string {
	n := p.nodes[dir].told(dir)
	for i, ino := range n.Inos {
		if p.boundTo(ino).State == api.SockListens {
			return n.Names[i]
		}
	}
	return other
}

// request answers a request: of any call, seldom of one that ends a process or can't be undone; seldom one that can't be.
func (p *player) request(pid int) api.Req {
	no := 1 + p.dice(api.Calls)
	if p.dice(3) == 0 {
		no = p.some(open, openat, mkdirat, read, write, send, recv, sock, pair, bind, listen, connect, accept, rename, renameat, link)
	}
	seldom := []int{exit, kill, pdkill, enter, limit, poll}
	if slices.Contains(seldom, no) && p.dice(4) > 0 {
		no = p.some(open, mkdir, write, send, recv, bind, listen, connect, accept)
	}
	r := p.like(pid, no)
	switch p.dice(80) {
	case 0:
		r.A[p.dice(5)] += p.some(-1, 1, 1000, math.MinInt)
	case 1:
		r.No = p.some(noCalls...)
	case 2:
		r.L = append(r.L, 1)
	case 3:
		r.S += "/x"
	case 4:
		r.T += "x"
	}
	return r
}

// near answers a descriptor of a process that is of what another one waits at, or of its other end, if it has one.
func (p *player) near(pid int, f api.File) (int, bool) {
	is := func(x api.File) bool {
		return x.Kind == f.Kind && (x.Obj == f.Obj || f.Kind == api.KSock && p.socks[x.Obj].Peer == f.Obj)
	}
	for _, fd := range sorted(p.fds[pid]) {
		if is(p.files[p.fds[pid][fd].File]) && p.dice(2) == 0 {
			return fd, true
		}
	}
	return 0, false
}

// helps answers a request by which one that waits may come to what it waits for, or be told an error.
func (p *player) helps(pid, waits int) api.Req {
	r := p.parks[waits]
	f := p.files[p.fds[waits][r.A[0]].File]
	if r.No == poll && len(r.L) > 0 {
		f = p.files[p.fds[waits][r.L[0]].File]
	}
	fd, there := p.near(pid, f)
	switch {
	case r.No == wait && pid != 1:
		return asks(exit, p.dice(3))
	case f.Kind == api.KProc:
		return asks(pdkill, p.of(pid, api.KProc), 9)
	case f.Kind == api.KSock && p.socks[f.Obj].State == api.SockListens:
		return p.like(pid, p.some(sock, connect, connect))
	case !there:
		return p.request(pid)
	case p.dice(8) == 0:
		return asks(fcntl, fd, 4, api.ONonblock)
	case p.dice(6) == 0:
		return asks(shut, fd)
	case f.Kind == api.KPipe:
		return []api.Req{asks(read, fd, 1), asks(read, fd, 9), says(write, "a", fd), says(write, "abc", fd)}[p.dice(4)]
	}
	return []api.Req{asks(recv, fd, 9, p.dice(3)), asks(read, fd, 1), says(write, "a", fd), gives(fd, p.fd(pid), p.fd(pid)), says(send, "ab", fd), asks(shutdown, fd, p.dice(3))}[p.dice(6)]
}

// step answers a step: of one that waits with anything, as that plays no part; else a request, often one that helps those that wait.
func (p *player) step() api.Step {
	pid := p.who()
	for range 2 {
		if _, waits := p.parks[pid]; waits {
			pid = p.who()
		}
	}
	if l := sorted(p.parks); len(l) > 0 && p.dice(2) == 0 {
		return api.Step{Pid: pid, Req: p.helps(pid, p.some(l...))}
	}
	return api.Step{Pid: pid, Req: p.request(pid)}
}
