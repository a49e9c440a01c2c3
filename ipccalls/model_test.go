package ipccalls

import (
	"cmp"
	"slices"
	"strings"

	"purlieu/api"
	"purlieu/world"
)

// plain is the chapter's words on a dump: each call answers what comes of it, and changes the dump. It knows none of the tables that a world has.
type plain struct {
	d api.Dump
	l api.Limits
}

// newPlain answers what there is in a world.
func newPlain(w *world.World) *plain {
	p := &plain{l: w.Limits()}
	p.sees(w)
	return p
}

// sees takes over what there is after something that is no call of this chapter.
func (p *plain) sees(w *world.World) { p.d = copied(w.Dump()) }

// copied answers a dump in new memory.
func copied(d api.Dump) api.Dump {
	d.Procs, d.Held, d.Parks, d.Files, d.Pipes, d.Socks, d.Inodes = slices.Clone(d.Procs), slices.Clone(d.Held), slices.Clone(d.Parks), slices.Clone(d.Files), slices.Clone(d.Pipes), slices.Clone(d.Socks), slices.Clone(d.Inodes)
	for i, x := range d.Socks {
		d.Socks[i].Waits, d.Socks[i].Parts = slices.Clone(x.Waits), slices.Clone(x.Parts)
		for j, part := range d.Socks[i].Parts {
			d.Socks[i].Parts[j].B = slices.Clone(part.B)
		}
	}
	for i, x := range d.Inodes {
		d.Inodes[i].Names, d.Inodes[i].Inos = slices.Clone(x.Names), slices.Clone(x.Inos)
	}
	return d
}

// found answers the one of l that is it, or one without anything.
func found[T any](l []T, is func(T) bool) *T {
	if i := slices.IndexFunc(l, is); i >= 0 {
		return &l[i]
	}
	return new(T)
}

func (p *plain) proc(pid int) *api.Proc {
	return found(p.d.Procs, func(x api.Proc) bool { return x.Pid == pid })
}

func (p *plain) held(pid, fd int) *api.Held {
	return found(p.d.Held, func(x api.Held) bool { return x.Pid == pid && x.Fd == fd })
}

func (p *plain) file(id int) *api.File {
	return found(p.d.Files, func(x api.File) bool { return x.ID == id })
}

func (p *plain) pipe(id int) *api.Pipe {
	return found(p.d.Pipes, func(x api.Pipe) bool { return x.ID == id })
}

func (p *plain) sock(id int) *api.Sock {
	return found(p.d.Socks, func(x api.Sock) bool { return x.ID == id })
}

func (p *plain) inode(ino int) *api.Inode {
	return found(p.d.Inodes, func(x api.Inode) bool { return x.Ino == ino })
}

// call answers what comes of a call; with an error all is as it was.
func (p *plain) call(pid int, r api.Req) api.Res {
	was := copied(p.d)
	x := p.does(pid, r)
	if x.Err != api.OK {
		p.d = was
		return api.Res{Err: x.Err}
	}
	return x
}

// does is P20.1, and then what comes of the call.
func (p *plain) does(pid int, r api.Req) api.Res {
	global := r.No == bind || r.No == connect || (r.No == bindat || r.No == connectat) && r.A[0] == cwd
	switch {
	case !p.proc(pid).Lives:
		return api.Res{Err: api.ESRCH}
	case !slices.Contains(chapter, r.No):
		return api.Res{Err: api.ENOSYS}
	case !shaped(r):
		return api.Res{Err: api.EINVAL}
	case p.proc(pid).Cap && global:
		return api.Res{Err: api.ECAPMODE}
	}
	switch r.No {
	case pipe, socket, socketpair:
		return p.makes(pid, r.No, r.A[0])
	}
	from, fd := ground{p.proc(pid).Cwd, false}, r.A[0]
	if r.No == bindat || r.No == connectat {
		fd = r.A[1]
		if r.A[0] != cwd {
			h, f, e := p.looks(pid, r.A[0], dirNeeds[r.No])
			switch {
			case e != api.OK:
				return api.Res{Err: e}
			case f.Kind != api.KDir:
				return api.Res{Err: api.ENOTDIR}
			}
			from = ground{f.Obj, p.proc(pid).Cap || h.Slot.Rights != 1<<32-1}
		}
	}
	_, f, e := p.looks(pid, fd, needs[r.No])
	switch {
	case e != api.OK:
		return api.Res{Err: e}
	case f.Kind != api.KSock:
		return api.Res{Err: api.ENOTSOCK}
	}
	return p.on(pid, from, f, r)
}

// looks answers a descriptor and its open file.
func (p *plain) looks(pid, fd int, need api.Rights) (api.Held, *api.File, api.Errno) {
	h := *p.held(pid, fd)
	switch {
	case h.Slot.File == 0:
		return h, nil, api.EBADF
	case h.Slot.Rights&need != need:
		return h, nil, api.ENOTCAPABLE
	}
	return h, p.file(h.Slot.File), api.OK
}

// on is what comes of a call on a socket.
func (p *plain) on(pid int, from ground, f *api.File, r api.Req) api.Res {
	x := p.sock(f.Obj)
	switch r.No {
	case bind, bindat:
		return api.Res{Err: p.bind(from, x, r.S)}
	case listen:
		return api.Res{Err: p.listen(x, r.A[1])}
	case connect, connectat:
		return api.Res{Err: p.connect(from, f.Obj, r.S)}
	case accept:
		return p.accept(pid, f, x, r.A[1])
	case shutdown:
		return api.Res{Err: p.shutdown(x, r.A[1])}
	case send:
		n, e := p.send(pid, f, x, r.S, r.L)
		return api.Res{Val: n, Err: e}
	}
	return p.recv(pid, f, x, r.A[1], r.A[2])
}

// wait is what a call tells that would wait.
func wait(f *api.File) api.Errno {
	if f.Flags&4 == 4 {
		return api.EAGAIN
	}
	return api.EWAIT
}

// free answers how many descriptors of a process are free.
func (p *plain) free(pid int) int {
	n := p.l.Fds
	for _, h := range p.d.Held {
		if h.Pid == pid {
			n--
		}
	}
	return n
}

// fits tells whether there is room for so many descriptors, and open files.
func (p *plain) fits(pid, fds, files int) api.Errno {
	switch {
	case p.free(pid) < fds:
		return api.EMFILE
	case len(p.d.Files)+files > p.l.Files:
		return api.ENFILE
	}
	return api.OK
}

// opens opens something, with all rights.
func (p *plain) opens(pid, kind, obj, flags int) int {
	id := p.d.Next[1]
	p.d.Next[1]++
	p.d.Files = append(p.d.Files, api.File{ID: id, Kind: kind, Obj: obj, Flags: flags, Refs: 1})
	return p.gives(pid, api.Slot{File: id, Rights: 1<<32 - 1, Ioctls: api.List{All: true}, Fcntls: 8 + 16 + 32 + 64})
}

// gives lets a process have the least free descriptor be that.
func (p *plain) gives(pid int, s api.Slot) int {
	for fd := range p.l.Fds {
		if p.held(pid, fd).Slot.File == 0 {
			p.d.Held = append(p.d.Held, api.Held{Pid: pid, Fd: fd, Slot: s})
			slices.SortFunc(p.d.Held, func(a, b api.Held) int { return cmp.Or(a.Pid-b.Pid, a.Fd-b.Fd) })
			return fd
		}
	}
	return -1
}

// socket makes a socket.
func (p *plain) socket(x api.Sock) int {
	x.ID = p.d.Next[3]
	p.d.Next[3]++
	p.d.Socks = append(p.d.Socks, x)
	return x.ID
}

func (p *plain) makes(pid, no, k int) api.Res {
	n := 2
	if no == socket {
		n = 1
	}
	if e := p.fits(pid, n, n); e != api.OK {
		return api.Res{Err: e}
	}
	var l []int
	switch no {
	case socket:
		return api.Res{Val: p.opens(pid, api.KSock, p.socket(api.Sock{}), 2+k)}
	case pipe:
		id := p.d.Next[2]
		p.d.Next[2]++
		p.d.Pipes = append(p.d.Pipes, api.Pipe{ID: id, Reads: true, Writes: true})
		l = []int{p.opens(pid, api.KPipe, id, k), p.opens(pid, api.KPipe, id, 1+k)}
	case socketpair:
		a := p.socket(api.Sock{State: api.SockJoined})
		b := p.socket(api.Sock{State: api.SockJoined, Peer: a})
		p.sock(a).Peer = b
		l = []int{p.opens(pid, api.KSock, a, 2+k), p.opens(pid, api.KSock, b, 2+k)}
	}
	return api.Res{Val: l[0], L: l}
}

func (p *plain) bind(from ground, x *api.Sock, s string) api.Errno {
	if x.ID == 0 || x.State != api.SockFresh || x.Bound != 0 {
		return api.EINVAL
	}
	y, e := p.walk(from, s, false, true)
	switch {
	case e != api.OK:
		return e
	case y.ino != 0:
		return api.EADDRINUSE
	case y.slash:
		return api.ENOENT
	case len(p.inode(y.dir).Names) == 64, len(p.d.Inodes) == p.l.Inodes:
		return api.ENOSPC
	}
	ino := p.d.Next[4]
	p.d.Next[4]++
	p.d.Inodes = append(p.d.Inodes, api.Inode{Ino: ino, Kind: api.KBound, Links: 1})
	d := p.inode(y.dir)
	at, _ := slices.BinarySearch(d.Names, y.name)
	d.Names, d.Inos = slices.Insert(d.Names, at, y.name), slices.Insert(d.Inos, at, ino)
	x.Bound = ino
	return api.OK
}

func (p *plain) listen(x *api.Sock, n int) api.Errno {
	if x.State == api.SockJoined || x.Bound == 0 {
		return api.EINVAL
	}
	x.State, x.Most = api.SockListens, min(n, 8)
	return api.OK
}

func (p *plain) connect(from ground, id int, s string) api.Errno {
	y, e := p.walk(from, s, true, false)
	switch {
	case e != api.OK:
		return e
	case p.inode(y.ino).Kind != api.KBound:
		return api.ENOTSOCK
	}
	x, to := p.sock(id), found(p.d.Socks, func(x api.Sock) bool { return x.Bound == y.ino })
	switch {
	case x.ID == 0:
		return api.EINVAL
	case x.State == api.SockJoined:
		return api.EISCONN
	case x.State == api.SockListens:
		return api.EOPNOTSUPP
	case to.State != api.SockListens, len(to.Waits) >= to.Most:
		return api.ECONNREFUSED
	}
	at := to.ID
	other := p.socket(api.Sock{State: api.SockJoined, Peer: id})
	x, to = p.sock(id), p.sock(at)
	x.State, x.Peer = api.SockJoined, other
	to.Waits = append(to.Waits, other)
	return api.OK
}

func (p *plain) accept(pid int, f *api.File, x *api.Sock, k int) api.Res {
	switch {
	case x.State != api.SockListens:
		return api.Res{Err: api.EINVAL}
	case len(x.Waits) == 0:
		return api.Res{Err: wait(f)}
	}
	if e := p.fits(pid, 1, 1); e != api.OK {
		return api.Res{Err: e}
	}
	other := x.Waits[0]
	x.Waits = x.Waits[1:]
	return api.Res{Val: p.opens(pid, api.KSock, other, 2+k)}
}

func (p *plain) shutdown(x *api.Sock, how int) api.Errno {
	switch {
	case x.ID == 0:
		return api.EINVAL
	case x.State != api.SockJoined:
		return api.ENOTCONN
	}
	if how > 0 {
		x.ShutW = true
	}
	if how != 1 {
		x.ShutR = true
		parts := x.Parts
		x.Parts = nil
		p.lose(parts)
	}
	return api.OK
}

// lose lets go of all that is passed with some parts.
func (p *plain) lose(parts []api.Part) {
	for _, part := range parts {
		for _, y := range part.L {
			p.drop(y.File)
		}
	}
}

func (p *plain) send(pid int, f *api.File, x *api.Sock, s string, fds []int) (int, api.Errno) {
	var l []api.Passed
	for _, fd := range fds {
		h := *p.held(pid, fd)
		if h.Slot.File == 0 {
			return 0, api.EBADF
		}
		l = append(l, api.Passed{File: h.Slot.File, Rights: h.Slot.Rights, Ioctls: h.Slot.Ioctls, Fcntls: h.Slot.Fcntls})
	}
	to := p.sock(x.Peer)
	switch {
	case s == "" && len(l) > 0, x.ID == 0:
		return 0, api.EINVAL
	case x.State != api.SockJoined:
		return 0, api.ENOTCONN
	case s == "":
		return 0, api.OK
	case x.ShutW, x.Peer == 0, to.ShutR:
		return 0, api.EPIPE
	}
	room := p.l.Sock
	for _, part := range to.Parts {
		room -= len(part.B)
	}
	begin := len(l) > 0 || len(to.Parts) == 0
	if room == 0 || begin && len(to.Parts) == 16 {
		return 0, wait(f)
	}
	if begin {
		to.Parts = append(to.Parts, api.Part{L: l})
	}
	s = s[:min(len(s), room)]
	last := &to.Parts[len(to.Parts)-1]
	last.B = append(last.B, s...)
	for _, y := range l {
		p.file(y.File).Refs++
	}
	return len(s), api.OK
}

func (p *plain) recv(pid int, f *api.File, x *api.Sock, n, most int) api.Res {
	switch {
	case x.ID == 0:
		return api.Res{Err: api.EINVAL}
	case x.State != api.SockJoined:
		return api.Res{Err: api.ENOTCONN}
	case n == 0:
		return api.Res{}
	case len(x.Parts) == 0 && (x.ShutR || x.Peer == 0 || p.sock(x.Peer).ShutW):
		return api.Res{}
	case len(x.Parts) == 0:
		return api.Res{Err: wait(f)}
	}
	l := x.Parts[0].L
	most = min(most, len(l))
	if p.free(pid) < most {
		return api.Res{Err: api.EMFILE}
	}
	x.Parts[0].L = nil
	s := ""
	for len(x.Parts) > 0 && len(s) < n && len(x.Parts[0].L) == 0 {
		part := &x.Parts[0]
		cut := min(len(part.B), n-len(s))
		s += string(part.B[:cut])
		if part.B = part.B[cut:]; len(part.B) == 0 {
			x.Parts = x.Parts[1:]
		}
	}
	res := api.Res{Val: len(s), S: s}
	for _, y := range l[:most] {
		res.L = append(res.L, p.gives(pid, api.Slot{File: y.File, Rights: y.Rights, Ioctls: y.Ioctls, Fcntls: y.Fcntls}))
	}
	for _, y := range l[most:] {
		p.drop(y.File)
	}
	return res
}

// drop lets one less name an open file, as P17.4 says.
func (p *plain) drop(id int) {
	f := p.file(id)
	if f.Refs--; f.Refs > 0 {
		return
	}
	gone := *f
	p.d.Files = slices.DeleteFunc(p.d.Files, func(x api.File) bool { return x.ID == id })
	switch gone.Kind {
	case api.KPipe:
		x := p.pipe(gone.Obj)
		if gone.Flags&1 == 1 {
			x.Writes = false
		} else {
			x.Reads, x.B = false, ""
		}
		p.d.Pipes = slices.DeleteFunc(p.d.Pipes, func(x api.Pipe) bool { return !x.Reads && !x.Writes })
	case api.KSock:
		p.lose(p.shuts(gone.Obj))
	case api.KProc:
		p.ends(gone.Obj)
	default:
		p.lets(gone.Obj)
	}
}

// lets takes a hold from an inode.
func (p *plain) lets(ino int) {
	p.inode(ino).Holds--
	p.d.Inodes = slices.DeleteFunc(p.d.Inodes, func(x api.Inode) bool { return x.Links+x.Holds == 0 })
}

// shuts closes a socket, and those that wait at it, and answers all that waited in them.
func (p *plain) shuts(id int) []api.Part {
	x := *p.sock(id)
	p.d.Socks = slices.DeleteFunc(p.d.Socks, func(x api.Sock) bool { return x.ID == id })
	p.sock(x.Peer).Peer = 0
	parts := x.Parts
	for _, other := range x.Waits {
		parts = append(parts, p.shuts(other)...)
	}
	return parts
}

// ends ends a process whose last descriptor is gone.
func (p *plain) ends(pid int) {
	x := p.proc(pid)
	if x.Lives && pid != 1 {
		cwd := x.Cwd
		x.Lives, x.Code, x.Cwd = false, 137, 0
		for i := range p.d.Procs {
			if p.d.Procs[i].Parent == pid {
				p.d.Procs[i].Parent = 1
			}
		}
		p.d.Parks = slices.DeleteFunc(p.d.Parks, func(x api.Park) bool { return x.Pid == pid })
		p.lets(cwd)
		for fd := range p.l.Fds {
			if h := *p.held(pid, fd); h.Slot.File != 0 {
				p.d.Held = slices.DeleteFunc(p.d.Held, func(x api.Held) bool { return x.Pid == pid && x.Fd == fd })
				p.drop(h.Slot.File)
			}
		}
	}
	p.d.Procs = slices.DeleteFunc(p.d.Procs, func(x api.Proc) bool { return x.Pid == pid && !x.Lives })
}

// ground is a base: the directory, and whether all has to stay in it.
type ground struct {
	dir  int
	held bool
}

// spot is what a path leads to: the directory, the name in it, what that leads to, and whether a slash is behind.
type spot struct {
	dir   int
	name  string
	ino   int
	slash bool
}

// walk goes a path, as chapter 8 says it.
func (p *plain) walk(g ground, s string, follow, parent bool) (spot, api.Errno) {
	links := 0
	var goes func(dir int, s string, rest []string, slash bool) (spot, api.Errno)
	goes = func(dir int, s string, rest []string, slash bool) (spot, api.Errno) {
		parts, e := p.parts(s)
		if e != api.OK {
			return spot{}, e
		}
		if s[0] == '/' {
			if g.held {
				return spot{}, api.ENOTCAPABLE
			}
			dir = 1
		}
		if len(rest) == 0 && len(parts) > 0 && strings.HasSuffix(s, "/") {
			slash = true
		}
		parts = append(parts, rest...)
		for len(parts) > 0 {
			part, last := parts[0], len(parts) == 1
			parts = parts[1:]
			ino, e := p.look(g, dir, part)
			if e == -api.ENOENT && last && parent {
				return spot{dir, part, 0, slash}, api.OK
			}
			if e != api.OK {
				return spot{}, max(e, -e)
			}
			x := p.inode(ino)
			switch {
			case x.Kind == api.KSymlink && (!last || follow || slash):
				if links++; links > 8 {
					return spot{}, api.ELOOP
				}
				return goes(dir, x.Text, parts, slash)
			case last && (part == "." || part == ".."):
				return spot{ino, "", ino, slash}, api.OK
			case last && slash && x.Kind != api.KDir:
				return spot{}, api.ENOTDIR
			case last:
				return spot{dir, part, ino, slash}, api.OK
			}
			dir = ino
		}
		return spot{dir, "", dir, slash}, api.OK
	}
	return goes(g.dir, s, nil, false)
}

// parts answers the parts of a path.
func (p *plain) parts(s string) ([]string, api.Errno) {
	parts := slices.DeleteFunc(strings.Split(s, "/"), func(part string) bool { return part == "" })
	switch {
	case s == "":
		return nil, api.ENOENT
	case len(s) > 256:
		return nil, api.ENAMETOOLONG
	case strings.Contains(s, "\x00"):
		return nil, api.EINVAL
	case slices.ContainsFunc(parts, func(part string) bool { return len(part) > 32 }):
		return nil, api.ENAMETOOLONG
	}
	return parts, api.OK
}

// look answers what a part leads to: below 0 it tells that there is just no such name.
func (p *plain) look(g ground, dir int, part string) (int, api.Errno) {
	x := p.inode(dir)
	switch {
	case x.Ino == 0:
		return 0, api.ENOENT
	case x.Kind != api.KDir:
		return 0, api.ENOTDIR
	case x.Links == 0 && x.Ino != 1:
		return 0, api.ENOENT
	case part == ".":
		return dir, api.OK
	case part == ".." && g.held:
		return 0, api.ENOTCAPABLE
	case part == "..":
		return x.Parent, api.OK
	}
	if at := slices.Index(x.Names, part); at >= 0 {
		return x.Inos[at], api.OK
	}
	return 0, -api.ENOENT
}
