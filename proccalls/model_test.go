package proccalls

import (
	"cmp"
	"slices"

	"purlieu/api"
	"purlieu/world"
)

// plain is the chapter's words on a dump: each call answers what comes of it, and changes the dump. It knows none of the tables that a world has.
type plain struct {
	d api.Dump
	l api.Limits
}

// newPlain answers what there is in a world.
func newPlain(w *world.World) *plain {
	p := &plain{l: w.Limits()}
	p.sees(w)
	return p
}

// sees takes over what there is after something that is no call of this chapter.
func (p *plain) sees(w *world.World) { p.d = copied(w.Dump()) }

// copied answers a dump in new memory.
func copied(d api.Dump) api.Dump {
	d.Procs, d.Held, d.Parks, d.Files, d.Pipes, d.Socks, d.Inodes = slices.Clone(d.Procs), slices.Clone(d.Held), slices.Clone(d.Parks), slices.Clone(d.Files), slices.Clone(d.Pipes), slices.Clone(d.Socks), slices.Clone(d.Inodes)
	return d
}

// found answers the one of l that is it, or one without anything.
func found[T any](l []T, is func(T) bool) *T {
	if i := slices.IndexFunc(l, is); i >= 0 {
		return &l[i]
	}
	return new(T)
}

func (p *plain) proc(pid int) *api.Proc {
	return found(p.d.Procs, func(x api.Proc) bool { return x.Pid == pid })
}

func (p *plain) held(pid, fd int) *api.Held {
	return found(p.d.Held, func(x api.Held) bool { return x.Pid == pid && x.Fd == fd })
}

func (p *plain) file(id int) *api.File {
	return found(p.d.Files, func(x api.File) bool { return x.ID == id })
}

func (p *plain) pipe(id int) *api.Pipe {
	return found(p.d.Pipes, func(x api.Pipe) bool { return x.ID == id })
}

func (p *plain) sock(id int) *api.Sock {
	return found(p.d.Socks, func(x api.Sock) bool { return x.ID == id })
}

func (p *plain) inode(ino int) *api.Inode {
	return found(p.d.Inodes, func(x api.Inode) bool { return x.Ino == ino })
}

// call answers what comes of a call; with an error all is as it was.
func (p *plain) call(pid int, r api.Req) api.Res {
	was := copied(p.d)
	x := p.does(pid, r)
	if x.Err != api.OK {
		p.d = was
		return api.Res{Err: x.Err}
	}
	return x
}

// does is P21.1, and then what comes of the call.
func (p *plain) does(pid int, r api.Req) api.Res {
	x := *p.proc(pid)
	switch {
	case !x.Lives:
		return api.Res{Err: api.ESRCH}
	case !slices.Contains(chapter, r.No):
		return api.Res{Err: api.ENOSYS}
	case !shaped(r):
		return api.Res{Err: api.EINVAL}
	case x.Cap && (r.No == wait || r.No == kill):
		return api.Res{Err: api.ECAPMODE}
	}
	switch r.No {
	case exit:
		return api.Res{Err: p.ends(pid, r.A[0])}
	case fork:
		child, e := p.forks(pid, false)
		return api.Res{Val: child, Err: e}
	case getpid:
		return api.Res{Val: pid}
	case getppid:
		return api.Res{Val: x.Parent}
	case wait:
		return p.wait(pid, r.A[0], r.A[1])
	case kill:
		return api.Res{Err: p.kill(r.A[0], r.A[1])}
	case pdfork:
		return p.pdfork(pid)
	}
	return p.byDescriptor(pid, r)
}

// byDescriptor is what comes of a call on a process's descriptor.
func (p *plain) byDescriptor(pid int, r api.Req) api.Res {
	h := p.held(pid, r.A[0])
	f := p.file(h.Slot.File)
	x := p.proc(f.Obj)
	switch {
	case h.Slot.File == 0:
		return api.Res{Err: api.EBADF}
	case h.Slot.Rights&needs[r.No] != needs[r.No]:
		return api.Res{Err: api.ENOTCAPABLE}
	case f.Kind != api.KProc:
		return api.Res{Err: api.EINVAL}
	case x.Pid == 0:
		return api.Res{Err: api.ESRCH}
	case r.No == pdkill:
		return api.Res{Err: p.kill(f.Obj, r.A[1])}
	case r.No == pdgetpid:
		return api.Res{Val: f.Obj}
	case x.Lives:
		return waits(r.A[1])
	}
	code := x.Code
	p.reaps(f.Obj)
	return api.Res{Val: 1, L: []int{code}}
}

// waits is what a call tells that would wait.
func waits(how int) api.Res {
	if how == 1 {
		return api.Res{}
	}
	return api.Res{Err: api.EWAIT}
}

// reaps takes a process that ended away.
func (p *plain) reaps(pid int) {
	p.d.Procs = slices.DeleteFunc(p.d.Procs, func(x api.Proc) bool { return x.Pid == pid && !x.Lives })
}

func (p *plain) wait(pid, which, how int) api.Res {
	if which < -1 {
		return api.Res{Err: api.EINVAL}
	}
	var children []api.Proc
	for _, x := range p.d.Procs {
		if x.Parent == pid && !x.Pd && (which < 1 || x.Pid == which) {
			children = append(children, x)
		}
	}
	if len(children) == 0 {
		return api.Res{Err: api.ECHILD}
	}
	children = slices.DeleteFunc(children, func(x api.Proc) bool { return x.Lives })
	if len(children) == 0 {
		return waits(how)
	}
	x := slices.MinFunc(children, func(a, b api.Proc) int { return a.Pid - b.Pid })
	p.reaps(x.Pid)
	return api.Res{Val: x.Pid, L: []int{x.Code}}
}

func (p *plain) kill(pid, s int) api.Errno {
	x := p.proc(pid)
	switch {
	case x.Pid == 0:
		return api.ESRCH
	case s == 0:
		return api.OK
	case pid == 1:
		return api.EPERM
	case x.Lives:
		return p.ends(pid, 128+s)
	}
	return api.OK
}

// forks lets there be one process more, with all that its parent has.
func (p *plain) forks(pid int, pd bool) (int, api.Errno) {
	if len(p.d.Procs) == p.l.Procs {
		return 0, api.EAGAIN
	}
	child := p.d.Next[0]
	p.d.Next[0]++
	x := *p.proc(pid)
	p.d.Procs = append(p.d.Procs, api.Proc{Pid: child, Parent: pid, Lives: true, Pd: pd, Cap: x.Cap, Cwd: x.Cwd})
	p.inode(x.Cwd).Holds++
	for fd := range p.l.Fds {
		if h := *p.held(pid, fd); h.Slot.File != 0 {
			p.puts(child, fd, h.Slot)
			p.file(h.Slot.File).Refs++
		}
	}
	return child, api.OK
}

// puts lets a process have a descriptor.
func (p *plain) puts(pid, fd int, s api.Slot) {
	p.d.Held = append(p.d.Held, api.Held{Pid: pid, Fd: fd, Slot: s})
	slices.SortFunc(p.d.Held, func(a, b api.Held) int { return cmp.Or(a.Pid-b.Pid, a.Fd-b.Fd) })
}

func (p *plain) pdfork(pid int) api.Res {
	fd := 0
	for p.held(pid, fd).Slot.File != 0 {
		fd++
	}
	switch {
	case fd == p.l.Fds:
		return api.Res{Err: api.EMFILE}
	case len(p.d.Files) == p.l.Files:
		return api.Res{Err: api.ENFILE}
	}
	child, e := p.forks(pid, true)
	if e != api.OK {
		return api.Res{Err: e}
	}
	id := p.d.Next[1]
	p.d.Next[1]++
	p.d.Files = append(p.d.Files, api.File{ID: id, Kind: api.KProc, Obj: child, Refs: 1})
	p.puts(pid, fd, api.Slot{File: id, Rights: 1<<32 - 1, Ioctls: api.List{All: true}, Fcntls: 8 + 16 + 32 + 64})
	return api.Res{Val: fd}
}

// ends ends a process, as P17.7 says.
func (p *plain) ends(pid, code int) api.Errno {
	x := p.proc(pid)
	switch {
	case !x.Lives:
		return api.ESRCH
	case pid == 1:
		return api.EPERM
	}
	cwd := x.Cwd
	x.Lives, x.Code, x.Cwd = false, code, 0
	for i := range p.d.Procs {
		if p.d.Procs[i].Parent == pid {
			p.d.Procs[i].Parent = 1
		}
	}
	p.d.Parks = slices.DeleteFunc(p.d.Parks, func(x api.Park) bool { return x.Pid == pid })
	p.lets(cwd)
	for fd := range p.l.Fds {
		if h := *p.held(pid, fd); h.Slot.File != 0 {
			p.d.Held = slices.DeleteFunc(p.d.Held, func(x api.Held) bool { return x.Pid == pid && x.Fd == fd })
			p.drop(h.Slot.File)
		}
	}
	return api.OK
}

// drop lets one less name an open file, as P17.4 says.
func (p *plain) drop(id int) {
	f := p.file(id)
	if f.Refs--; f.Refs > 0 {
		return
	}
	gone := *f
	p.d.Files = slices.DeleteFunc(p.d.Files, func(x api.File) bool { return x.ID == id })
	switch gone.Kind {
	case api.KPipe:
		x := p.pipe(gone.Obj)
		if gone.Flags&1 == 1 {
			x.Writes = false
		} else {
			x.Reads, x.B = false, ""
		}
		p.d.Pipes = slices.DeleteFunc(p.d.Pipes, func(x api.Pipe) bool { return !x.Reads && !x.Writes })
	case api.KSock:
		for _, part := range p.shuts(gone.Obj) {
			for _, y := range part.L {
				p.drop(y.File)
			}
		}
	case api.KProc:
		p.ends(gone.Obj, 137)
		p.reaps(gone.Obj)
	default:
		p.lets(gone.Obj)
	}
}

// lets takes a hold from an inode.
func (p *plain) lets(ino int) {
	p.inode(ino).Holds--
	p.d.Inodes = slices.DeleteFunc(p.d.Inodes, func(x api.Inode) bool { return x.Links+x.Holds == 0 })
}

// shuts closes a socket, and those that wait at it, and answers all that waited in them.
func (p *plain) shuts(id int) []api.Part {
	x := *p.sock(id)
	p.d.Socks = slices.DeleteFunc(p.d.Socks, func(x api.Sock) bool { return x.ID == id })
	p.sock(x.Peer).Peer = 0
	parts := slices.Clone(x.Parts)
	for _, other := range x.Waits {
		parts = append(parts, p.shuts(other)...)
	}
	return parts
}
