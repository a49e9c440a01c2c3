package run

import (
	"slices"

	"purlieu/api"
)

// look answers a descriptor, and what is open by it.
func (c *caller) look(fd int, need api.Rights) (api.Slot, api.File) {
	s, there := c.fds[c.pid][fd]
	unless(there, api.EBADF)
	unless(s.Rights&need == need, api.ENOTCAPABLE)
	return s, c.files[s.File]
}

// least answers the least descriptor from there on that is free.
func (c *caller) least(from int) int {
	unless(0 <= from && from < c.l.Fds, api.EINVAL)
	for fd := from; fd < c.l.Fds; fd++ {
		if _, there := c.fds[c.pid][fd]; !there {
			return fd
		}
	}
	panic(api.EMFILE)
}

// fits stops, if so many descriptors, so many open files are not free.
func (c *caller) fits(fds, files int) {
	unless(c.l.Fds-len(c.fds[c.pid]) >= fds, api.EMFILE)
	unless(c.l.Files-len(c.files) >= files, api.ENFILE)
}

// opens opens something, with like's rights and whitelists.
func (c *caller) opens(kind, obj, flags int, like api.Slot) int {
	c.fits(1, 1)
	id := c.number(nextFile)
	c.files[id] = api.File{ID: id, Kind: kind, Obj: obj, Flags: flags & api.OStays, Refs: 1}
	if kind == api.KFile || kind == api.KDir {
		c.hold(obj, 1)
	}
	like.File = id
	fd := c.least(0)
	c.fds[c.pid][fd] = like
	return fd
}

// named changes by how many an open file is named. One that nobody names any more is gone, and what it was of is let go.
func (p *plain) named(id, by int) {
	f := p.files[id]
	f.Refs += by
	p.files[id] = f
	if f.Refs > 0 {
		return
	}
	delete(p.files, id)
	switch f.Kind {
	case api.KFile, api.KDir:
		p.hold(f.Obj, -1)
	case api.KPipe:
		p.endOfPipe(f)
	case api.KSock:
		p.endOfSock(f.Obj)
	case api.KProc:
		if p.procs[f.Obj].Lives {
			p.ends(f.Obj, 137)
		}
		delete(p.procs, f.Obj)
	}
}

// endOfPipe closes an end of a pipe.
func (p *plain) endOfPipe(f api.File) {
	x := p.pipes[f.Obj]
	if f.Flags&api.OWrite != 0 {
		x.Writes = false
	} else {
		x.Reads, x.B = false, ""
	}
	p.pipes[f.Obj] = x
	if !x.Reads && !x.Writes {
		delete(p.pipes, f.Obj)
	}
}

// endOfSock closes a socket, and those that wait at it.
func (p *plain) endOfSock(id int) {
	x := p.socks[id]
	var lost []api.Passed
	for _, id := range append([]int{id}, x.Waits...) {
		y := p.socks[id]
		for _, part := range y.Parts {
			lost = append(lost, part.L...)
		}
		if other, there := p.socks[y.Peer]; there {
			other.Peer = 0
			p.socks[y.Peer] = other
		}
		delete(p.socks, id)
	}
	p.drops(lost)
}

// drops lets go of what was passed.
func (p *plain) drops(l []api.Passed) {
	for _, x := range l {
		p.named(x.File, -1)
	}
}

// ends ends a process.
func (p *plain) ends(pid, code int) {
	x := p.procs[pid]
	held, dir := p.fds[pid], x.Cwd
	x.Lives, x.Code, x.Cwd = false, code, 0
	p.procs[pid] = x
	for _, child := range sorted(p.procs) {
		if y := p.procs[child]; y.Parent == pid {
			y.Parent = 1
			p.procs[child] = y
		}
	}
	delete(p.fds, pid)
	delete(p.parks, pid)
	p.hold(dir, -1)
	for _, fd := range sorted(held) {
		p.named(held[fd].File, -1)
	}
}

// forks makes a child.
func (c *caller) forks(pd bool) int {
	unless(len(c.procs) < c.l.Procs, api.EAGAIN)
	me, pid := c.procs[c.pid], c.number(nextProc)
	c.procs[pid] = api.Proc{Pid: pid, Parent: c.pid, Lives: true, Pd: pd, Cap: me.Cap, Cwd: me.Cwd}
	c.hold(me.Cwd, 1)
	c.fds[pid] = map[int]api.Slot{}
	for fd, s := range c.fds[c.pid] {
		c.fds[pid][fd] = s
		c.named(s.File, 1)
	}
	return pid
}

// pdfork makes a child that a descriptor stands for.
func (c *caller) pdfork() api.Res {
	c.fits(1, 1)
	pid := c.forks(true)
	return api.Res{Val: c.opens(api.KProc, pid, 0, full(0))}
}

// wait takes away a child that ended.
func (c *caller) wait(which, how int) api.Res {
	unless(which >= -1, api.EINVAL)
	some := false
	for _, pid := range sorted(c.procs) {
		x := c.procs[pid]
		if x.Parent != c.pid || x.Pd || which > 0 && pid != which {
			continue
		}
		if !x.Lives {
			delete(c.procs, pid)
			return api.Res{Val: pid, L: []int{x.Code}}
		}
		some = true
	}
	unless(some, api.ECHILD)
	unless(how == 1, api.EWAIT)
	return api.Res{}
}

// process answers which process a descriptor stands for, by the right that the call needs.
func (c *caller) process(fd int, there bool) int {
	_, f := c.look(fd, c.what.Need[0])
	unless(f.Kind == api.KProc, api.EINVAL)
	if _, is := c.procs[f.Obj]; there && !is {
		stop(api.ESRCH)
	}
	return f.Obj
}

// kill ends another process, or the caller, by a signal.
func (c *caller) kill(pid, signal int) api.Res {
	x, there := c.procs[pid]
	unless(there, api.ESRCH)
	if signal != 0 {
		unless(pid != 1, api.EPERM)
		if x.Lives {
			c.ends(pid, 128+signal)
		}
	}
	return api.Res{}
}

// pdwait takes away the process that a descriptor stands for.
func (c *caller) pdwait(fd, how int) api.Res {
	pid := c.process(fd, true)
	x := c.procs[pid]
	if x.Lives {
		unless(how == 1, api.EWAIT)
		return api.Res{}
	}
	delete(c.procs, pid)
	return api.Res{Val: 1, L: []int{x.Code}}
}

// closes lets go of a descriptor.
func (c *caller) closes(fd int) {
	s, _ := c.look(fd, 0)
	delete(c.fds[c.pid], fd)
	c.named(s.File, -1)
}

// dup makes a descriptor like it, the least one from there on.
func (c *caller) dup(fd, from int) int {
	s, _ := c.look(fd, 0)
	to := c.least(from)
	c.fds[c.pid][to] = s
	c.named(s.File, 1)
	return to
}

// dup2 makes a descriptor like it, just there.
func (c *caller) dup2(fd, to int) api.Res {
	s, _ := c.look(fd, 0)
	unless(0 <= to && to < c.l.Fds, api.EBADF)
	if fd == to {
		return api.Res{Val: to}
	}
	was, there := c.fds[c.pid][to]
	c.fds[c.pid][to] = s
	c.named(s.File, 1)
	if there {
		c.named(was.File, -1)
	}
	return api.Res{Val: to}
}

// ofRights does a call on what a descriptor may be used for.
func (c *caller) ofRights(fd, x int) api.Res {
	s, _ := c.look(fd, 0)
	switch c.what.Name {
	case "cap_rights_limit":
		r := taken(c.r.L)
		unless(r&^s.Rights == 0, api.ENOTCAPABLE)
		s.Rights = r
		if r&api.CapIoctl == 0 {
			s.Ioctls = api.List{}
		}
		if r&api.CapFcntl == 0 {
			s.Fcntls = 0
		}
	case "cap_rights_get":
		return api.Res{L: words(s.Rights)}
	case "cap_ioctls_limit":
		s.Ioctls = narrowed(s.Ioctls, c.r.L)
	case "cap_ioctls_get":
		if s.Ioctls.All {
			return api.Res{Val: -1}
		}
		return api.Res{Val: len(s.Ioctls.L), L: s.Ioctls.L}
	case "cap_fcntls_limit":
		unless(x&^api.FcntlAll == 0, api.EINVAL)
		unless(x&^s.Fcntls == 0, api.ENOTCAPABLE)
		s.Fcntls = x
	case "cap_fcntls_get":
		return api.Res{Val: s.Fcntls}
	}
	c.fds[c.pid][fd] = s
	return api.Res{}
}

// words answers the raw words of rights: 20 of them in the first one, 12 in the second one, each with a mark of its own.
func words(r api.Rights) []int {
	return []int{1<<57 + int(r&(1<<20-1)), 1<<58 + int(r>>20)}
}

// taken answers the rights of which these are the words.
func taken(l []int) api.Rights {
	unless(len(l) == 2, api.EINVAL)
	r := api.Rights(uint64(l[0])&(1<<20-1) | uint64(l[1])&(1<<12-1)<<20)
	unless(slices.Equal(words(r), l), api.EINVAL)
	return r
}

// narrowed answers a whitelist of just these commands, all of which the old one has.
func narrowed(old api.List, l []int) api.List {
	l = slices.Clone(l)
	slices.Sort(l)
	l = slices.Compact(l)
	unless(len(l) == 0 || l[0] >= 0, api.EINVAL)
	unless(len(l) <= api.MaxCmds, api.EINVAL)
	for _, cmd := range l {
		unless(has(old, cmd), api.ENOTCAPABLE)
	}
	return api.List{L: l}
}

// has tells whether a command is in a whitelist.
func has(l api.List, cmd int) bool {
	return cmd >= 0 && (l.All || slices.Contains(l.L, cmd))
}
