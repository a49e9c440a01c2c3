package run

import (
	"slices"

	"purlieu/api"
)

// pipe makes a pipe.
func (c *caller) pipe(k int) api.Res {
	c.fits(2, 2)
	id := c.number(nextPipe)
	c.pipes[id] = api.Pipe{ID: id, Reads: true, Writes: true}
	a := c.opens(api.KPipe, id, k, full(0))
	b := c.opens(api.KPipe, id, api.OWrite|k, full(0))
	return api.Res{Val: a, L: []int{a, b}}
}

// made makes a socket.
func (c *caller) made(state, peer int) int {
	id := c.number(nextSock)
	c.socks[id] = api.Sock{ID: id, State: state, Peer: peer}
	return id
}

// socket makes a fresh socket.
func (c *caller) socket(k int) api.Res {
	c.fits(1, 1)
	return api.Res{Val: c.opens(api.KSock, c.made(api.SockFresh, 0), api.OBoth|k, full(0))}
}

// socketpair makes two sockets that are joined.
func (c *caller) socketpair(k int) api.Res {
	c.fits(2, 2)
	id := c.next[nextSock]
	a := c.opens(api.KSock, c.made(api.SockJoined, id+1), api.OBoth|k, full(0))
	b := c.opens(api.KSock, c.made(api.SockJoined, id), api.OBoth|k, full(0))
	return api.Res{Val: a, L: []int{a, b}}
}

// sock answers a descriptor's open file and socket.
func (c *caller) sock(fd int, need api.Rights) (api.File, api.Sock) {
	_, f := c.look(fd, need)
	unless(f.Kind == api.KSock, api.ENOTSOCK)
	return f, c.socks[f.Obj]
}

// bind gives a socket a name.
func (c *caller) bind(b base, fd int, need api.Rights, s string) api.Res {
	_, x := c.sock(fd, need)
	unless(x.State == api.SockFresh && x.Bound == 0, api.EINVAL)
	f := c.walk(b, s, false, true)
	unless(f.ino == 0, api.EADDRINUSE)
	unless(!f.slash, api.ENOENT)
	x.Bound = c.create(f.dir, f.name, api.KBound, "")
	c.socks[x.ID] = x
	return api.Res{}
}

// listen lets others connect to a socket.
func (c *caller) listen(fd, n int) api.Res {
	_, x := c.sock(fd, c.what.Need[0])
	unless(x.State != api.SockJoined && x.Bound != 0, api.EINVAL)
	x.State, x.Most = api.SockListens, min(n, api.MaxBacklog)
	c.socks[x.ID] = x
	return api.Res{}
}

// boundTo answers the socket that has that name.
func (p *plain) boundTo(ino int) api.Sock {
	for _, id := range sorted(p.socks) {
		if p.socks[id].Bound == ino {
			return p.socks[id]
		}
	}
	return api.Sock{}
}

// connect joins a socket to a new one, which waits at the one of that name.
func (c *caller) connect(b base, fd int, need api.Rights, s string) api.Res {
	_, x := c.sock(fd, need)
	f := c.walk(b, s, true, false)
	unless(c.nodes[f.ino].kind == api.KBound, api.ENOTSOCK)
	unless(x.State != api.SockJoined, api.EISCONN)
	unless(x.State != api.SockListens, api.EOPNOTSUPP)
	to := c.boundTo(f.ino)
	unless(to.State == api.SockListens && len(to.Waits) < to.Most, api.ECONNREFUSED)
	x.State, x.Peer = api.SockJoined, c.made(api.SockJoined, x.ID)
	to.Waits = append(slices.Clone(to.Waits), x.Peer)
	c.socks[x.ID], c.socks[to.ID] = x, to
	return api.Res{}
}

// accept opens the first one that waits at a socket.
func (c *caller) accept(fd, k int) api.Res {
	f, x := c.sock(fd, c.what.Need[0])
	unless(x.State == api.SockListens, api.EINVAL)
	if len(x.Waits) == 0 {
		waits(f)
	}
	c.fits(1, 1)
	first := x.Waits[0]
	x.Waits = x.Waits[1:]
	c.socks[x.ID] = x
	return api.Res{Val: c.opens(api.KSock, first, api.OBoth|k, full(0))}
}

// shutdown shuts a socket for reading (0), for writing (1), for both (2).
func (c *caller) shutdown(fd, how int) api.Res {
	_, x := c.sock(fd, c.what.Need[0])
	unless(x.State == api.SockJoined, api.ENOTCONN)
	x.ShutW = x.ShutW || how > 0
	var lost []api.Passed
	if how != 1 {
		for _, part := range x.Parts {
			lost = append(lost, part.L...)
		}
		x.ShutR, x.Parts = true, nil
	}
	c.socks[x.ID] = x
	c.drops(lost)
	return api.Res{}
}

// send sends bytes with descriptors.
func (c *caller) send(fd int, s string, l []int) api.Res {
	f, _ := c.sock(fd, c.what.Need[0])
	var passed []api.Passed
	for _, fd := range l {
		x, there := c.fds[c.pid][fd]
		unless(there, api.EBADF)
		passed = append(passed, api.Passed{File: x.File, Rights: x.Rights, Ioctls: x.Ioctls, Fcntls: x.Fcntls})
	}
	unless(s != "" || len(l) == 0, api.EINVAL)
	return c.sends(f, s, passed)
}

// hears tells whether what a joined socket sends is received by its other end.
func (p *plain) hears(x api.Sock) bool {
	other, there := p.socks[x.Peer]
	return there && !x.ShutW && !other.ShutR
}

// takesNone tells whether a socket has no room for a byte, with something passed or without.
func (p *plain) takesNone(x api.Sock, passed bool) bool {
	begins := passed || len(x.Parts) == 0
	return p.waiting(x.ID) == p.l.Sock || begins && len(x.Parts) == api.MaxParts
}

// sends puts bytes, and what is passed with the first one, behind what waits at the other end.
func (c *caller) sends(f api.File, s string, passed []api.Passed) api.Res {
	x := c.socks[f.Obj]
	unless(x.State == api.SockJoined, api.ENOTCONN)
	if s == "" {
		return api.Res{}
	}
	unless(c.hears(x), api.EPIPE)
	other := c.socks[x.Peer]
	if c.takesNone(other, len(passed) > 0) {
		waits(f)
	}
	s = cut(s, 0, c.l.Sock-c.waiting(other.ID))
	l := slices.Clone(other.Parts)
	if len(passed) > 0 || len(l) == 0 {
		l = append(l, api.Part{L: passed})
	}
	last := &l[len(l)-1]
	last.B = slices.Concat(last.B, []byte(s))
	other.Parts = l
	c.socks[other.ID] = other
	for _, x := range passed {
		c.named(x.File, 1)
	}
	return api.Res{Val: len(s)}
}

// over tells whether nothing comes to a joined socket any more.
func (p *plain) over(x api.Sock) bool {
	other, there := p.socks[x.Peer]
	return x.ShutR || !there || other.ShutW
}

// receives takes bytes, and up to most of what was passed with the first one; and what was passed beyond.
func (c *caller) receives(f api.File, n, most int) (string, []api.Passed, []api.Passed) {
	x := c.socks[f.Obj]
	unless(x.State == api.SockJoined, api.ENOTCONN)
	if n == 0 {
		return "", nil, nil
	}
	if len(x.Parts) == 0 {
		if !c.over(x) {
			waits(f)
		}
		return "", nil, nil
	}
	l := slices.Clone(x.Parts)
	passed := l[0].L
	l[0].L = nil
	s := ""
	for len(l) > 0 && len(l[0].L) == 0 && len(s) < n {
		more := cut(string(l[0].B), 0, n-len(s))
		s += more
		l[0].B = l[0].B[len(more):]
		if len(l[0].B) == 0 {
			l = l[1:]
		}
	}
	x.Parts = l
	c.socks[x.ID] = x
	most = min(most, len(passed))
	return s, passed[:most], passed[most:]
}

// recv receives bytes with descriptors.
func (c *caller) recv(fd, n, most int) api.Res {
	f, x := c.sock(fd, c.what.Need[0])
	if n > 0 && len(x.Parts) > 0 {
		unless(c.l.Fds-len(c.fds[c.pid]) >= min(most, len(x.Parts[0].L)), api.EMFILE)
	}
	s, passed, lost := c.receives(f, n, most)
	res := bytes(s)
	for _, p := range passed {
		fd := c.least(0)
		c.fds[c.pid][fd] = api.Slot{File: p.File, Rights: p.Rights, Ioctls: p.Ioctls, Fcntls: p.Fcntls}
		res.L = append(res.L, fd)
	}
	c.drops(lost)
	return res
}

// can tells which of read and write of a byte would not wait: 1, 2, both, none.
func (c *caller) can(fd int) int {
	_, f := c.look(fd, api.CapEvent)
	r, w := false, false
	switch f.Kind {
	case api.KFile, api.KDir:
		r, w = way(f) != api.OWrite, way(f) != 0
	case api.KPipe:
		x := c.pipes[f.Obj]
		if way(f) == 0 {
			r = x.B != "" || !x.Writes
		} else {
			w = len(x.B) < c.l.Pipe || !x.Reads
		}
	case api.KSock:
		x := c.socks[f.Obj]
		switch x.State {
		case api.SockListens:
			r = len(x.Waits) > 0
		case api.SockJoined:
			r = len(x.Parts) > 0 || c.over(x)
			w = !c.hears(x) || !c.takesNone(c.socks[x.Peer], false)
		}
	case api.KProc:
		r = !c.procs[f.Obj].Lives
	}
	n := 0
	if r {
		n++
	}
	if w {
		n += 2
	}
	return n
}

// poll tells of pairs of a descriptor and what it is asked for which can be.
func (c *caller) poll(how int) api.Res {
	res := api.Res{}
	for i := 0; i < len(c.r.L); i += 2 {
		x := c.can(c.r.L[i]) & c.r.L[i+1]
		if x != 0 {
			res.Val++
		}
		res.L = append(res.L, x)
	}
	unless(res.Val > 0 || len(res.L) == 0 || how == 1, api.EWAIT)
	return res
}
