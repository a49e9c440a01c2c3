package run

import (
	"maps"
	"slices"

	"purlieu/api"
	"purlieu/calls"
	"purlieu/reqs"
)

// plain is a kernel as the chapters' words have it, all of it in one. It stands on the tables of calls alone: what is there is in maps of values. A call is done in place, and where it tells an error, all is as it was ahead of it.
type plain struct {
	l     api.Limits
	procs map[int]api.Proc
	fds   map[int]map[int]api.Slot // of those that live
	parks map[int]api.Req
	files map[int]api.File
	pipes map[int]api.Pipe
	socks map[int]api.Sock
	nodes map[int]node
	next  [5]int // of processes, open files, pipes, sockets, inodes
}

// node is an inode. Its blocks and entries are never changed where they are: others stand in their place.
type node struct {
	kind, links, holds, parent int
	text                       string // a file's bytes, a symlink's target
	blocks                     []int  // those that a file has
	entries                    map[string]int
}

// The next numbers.
const (
	nextProc = iota
	nextFile
	nextPipe
	nextSock
	nextNode
)

const root = 1

// full is all that a descriptor may be used for.
func full(file int) api.Slot {
	return api.Slot{File: file, Rights: api.CapAll, Ioctls: api.List{All: true}, Fcntls: api.FcntlAll}
}

// can tells whether there can be a world with these limits.
func can(l api.Limits) bool {
	from := func(least, n, most int) bool { return least <= n && n <= most }
	return from(1, l.Procs, 64) && from(1, l.Fds, 64) && from(1, l.Files, 256) && from(1, l.Inodes, 256) && from(0, l.Blocks, 4096) && from(1, l.Pipe, 4096) && from(1, l.Sock, 4096)
}

// newPlain answers a kernel from the beginning: one process, in the root, which has one hold of its own, and one more of the process.
func newPlain(l api.Limits) *plain {
	return &plain{
		l:     l,
		procs: map[int]api.Proc{1: {Pid: 1, Lives: true, Cwd: root}},
		fds:   map[int]map[int]api.Slot{1: {}},
		parks: map[int]api.Req{},
		files: map[int]api.File{},
		pipes: map[int]api.Pipe{},
		socks: map[int]api.Sock{},
		nodes: map[int]node{root: {kind: api.KDir, holds: 2, parent: root}},
		next:  [5]int{2, 1, 1, 1, 2},
	}
}

// copied answers the same once more, apart from then on.
func (p *plain) copied() *plain {
	c := *p
	c.procs, c.parks, c.files = maps.Clone(p.procs), maps.Clone(p.parks), maps.Clone(p.files)
	c.pipes, c.socks, c.nodes = maps.Clone(p.pipes), maps.Clone(p.socks), maps.Clone(p.nodes)
	c.fds = map[int]map[int]api.Slot{}
	for pid, m := range p.fds {
		c.fds[pid] = maps.Clone(m)
	}
	return &c
}

// number answers the next number of these.
func (p *plain) number(of int) int {
	p.next[of]++
	return p.next[of] - 1
}

// stop ends a call with that error.
func stop(e api.Errno) { panic(e) }

// unless ends a call with that error, if something does not hold.
func unless(holds bool, e api.Errno) {
	if !holds {
		stop(e)
	}
}

// tries answers the error with which f stops.
func tries(f func()) (e api.Errno) {
	defer func() {
		if x := recover(); x != nil {
			e = x.(api.Errno)
		}
	}()
	f()
	return api.OK
}

// step does a step.
func (p *plain) step(s api.Step) api.Out {
	if !p.procs[s.Pid].Lives {
		return api.Out{Mark: api.Idle}
	}
	r, waited := p.parks[s.Pid]
	if !waited {
		r = s.Req
		r.L = slices.Clone(s.Req.L)
	}
	res := p.do(s.Pid, r)
	switch {
	case res.Err == 1000:
		p.parks[s.Pid] = r
		return api.Out{Mark: api.Parked}
	case waited:
		delete(p.parks, s.Pid)
		return api.Out{Mark: api.Woken, Res: res}
	}
	return api.Out{Mark: api.Done, Res: res}
}

// do does a call: all of it, or nothing.
func (p *plain) do(pid int, r api.Req) (res api.Res) {
	was := p.copied()
	c := &caller{p, pid, r, calls0(r.No)}
	e := tries(func() {
		c.ready()
		res = c.call()
	})
	if e != api.OK {
		*p = *was
		return api.Res{Err: e}
	}
	return res
}

// calls0 answers the call with that number, the zero one of none.
func calls0(no int) api.Call {
	x, _ := calls.Get(no)
	return x
}

// caller is a process that asks for something.
type caller struct {
	*plain
	pid  int
	r    api.Req
	what api.Call
}

// ready stops, if the request can't be, or is not for a process in capability mode.
func (c *caller) ready() {
	if e := reqs.Check(c.r); e != api.OK {
		stop(e)
	}
	if !c.procs[c.pid].Cap {
		return
	}
	unless(c.what.Gate != api.GateShut, api.ECAPMODE)
	at := 0
	for _, x := range c.what.Shape {
		if x == 'd' {
			unless(c.what.Gate != api.GateBelow || c.r.A[at] != api.AtCwd, api.ECAPMODE)
		}
		if x >= 'a' {
			at++
		}
	}
}

// call does what is asked for, by the call's name.
func (c *caller) call() api.Res {
	a, r := c.r.A, c.r
	switch c.what.Name {
	case "open":
		return c.open(c.cwd(), a[0], r.S)
	case "openat":
		need, _ := calls.Flags(a[1])
		return c.open(c.base(a[0], need), a[1], r.S)
	case "mkdir", "mkdirat":
		return c.mkdir(c.base1(), r.S)
	case "symlink", "symlinkat":
		return c.symlink(c.base1(), r.S, r.T)
	case "link":
		return c.link(c.cwd(), c.cwd(), false, r.S, r.T)
	case "linkat":
		return c.link(c.base1(), c.base2(), a[2] == 1, r.S, r.T)
	case "unlink":
		return c.unlink(c.cwd(), false, r.S)
	case "rmdir":
		return c.unlink(c.cwd(), true, r.S)
	case "unlinkat":
		return c.unlink(c.base1(), a[1] == 1, r.S)
	case "rename":
		return c.rename(c.cwd(), c.cwd(), r.S, r.T)
	case "renameat":
		return c.rename(c.base1(), c.base2(), r.S, r.T)
	case "chdir":
		return c.chdir(r.S)
	case "fchdir":
		return c.fchdir(a[0])
	case "readlink", "readlinkat":
		return c.readlink(c.base1(), r.S)
	case "stat":
		return c.stat(c.cwd(), a[0] == 0, r.S)
	case "fstatat":
		return c.stat(c.base1(), a[1] == 0, r.S)
	case "bind":
		return c.bind(c.cwd(), a[0], c.what.Need[0], r.S)
	case "bindat":
		return c.bind(c.base1(), a[1], c.what.Need[1], r.S)
	case "connect":
		return c.connect(c.cwd(), a[0], c.what.Need[0], r.S)
	case "connectat":
		return c.connect(c.base1(), a[1], c.what.Need[1], r.S)
	}
	if c.what.Shape != "" && c.what.Shape[0] == 'f' {
		return c.ofDescriptor(a[0], a[1], a[2])
	}
	return c.ofProcess(a[0], a[1])
}

// ofDescriptor does a call of a descriptor, in which no path is.
func (c *caller) ofDescriptor(fd, x, y int) api.Res {
	switch c.what.Name {
	case "read":
		return c.read(fd, x)
	case "pread":
		return c.pread(fd, x, y)
	case "write":
		return c.write(fd, c.r.S)
	case "pwrite":
		return c.pwrite(fd, x, c.r.S)
	case "close":
		c.closes(fd)
		return api.Res{}
	case "dup":
		return api.Res{Val: c.dup(fd, 0)}
	case "dup2":
		return c.dup2(fd, x)
	case "fcntl":
		return c.fcntl(fd, x, y)
	case "ioctl":
		return c.ioctl(fd, x, y)
	case "lseek":
		return c.lseek(fd, x, y)
	case "ftruncate":
		return c.ftruncate(fd, x)
	case "fsync":
		return c.fsync(fd)
	case "getdents":
		return c.getdents(fd, x)
	case "fstat":
		return c.fstat(fd)
	case "listen":
		return c.listen(fd, x)
	case "accept":
		return c.accept(fd, x)
	case "shutdown":
		return c.shutdown(fd, x)
	case "send":
		return c.send(fd, c.r.S, c.r.L)
	case "recv":
		return c.recv(fd, x, y)
	case "pdgetpid":
		return api.Res{Val: c.process(fd, true)}
	case "pdkill":
		return c.kill(c.process(fd, false), x)
	case "pdwait":
		return c.pdwait(fd, x)
	}
	return c.ofRights(fd, x)
}

// ofProcess does a call in which no descriptor stands.
func (c *caller) ofProcess(x, y int) api.Res {
	switch c.what.Name {
	case "pipe":
		return c.pipe(x)
	case "socket":
		return c.socket(x)
	case "socketpair":
		return c.socketpair(x)
	case "poll":
		return c.poll(x)
	case "exit":
		unless(c.pid != 1, api.EPERM)
		c.ends(c.pid, x)
		return api.Res{}
	case "fork":
		return api.Res{Val: c.forks(false)}
	case "pdfork":
		return c.pdfork()
	case "getpid":
		return api.Res{Val: c.pid}
	case "getppid":
		return api.Res{Val: c.procs[c.pid].Parent}
	case "wait":
		return c.wait(x, y)
	case "kill":
		return c.kill(x, y)
	case "cap_enter":
		x := c.procs[c.pid]
		x.Cap = true
		c.procs[c.pid] = x
		return api.Res{}
	case "cap_getmode":
		if c.procs[c.pid].Cap {
			return api.Res{Val: 1}
		}
		return api.Res{}
	}
	panic("no such call: " + c.what.Name)
}

// sorted answers the keys of a map, rising.
func sorted[V any](m map[int]V) []int { return slices.Sorted(maps.Keys(m)) }

// all answers all there is.
func (p *plain) all() api.Dump {
	d := api.Dump{Next: p.next}
	for _, pid := range sorted(p.procs) {
		d.Procs = append(d.Procs, p.procs[pid])
		for _, fd := range sorted(p.fds[pid]) {
			d.Held = append(d.Held, api.Held{Pid: pid, Fd: fd, Slot: p.fds[pid][fd]})
		}
		if r, waits := p.parks[pid]; waits {
			d.Parks = append(d.Parks, api.Park{Pid: pid, Req: r})
		}
	}
	for _, id := range sorted(p.files) {
		d.Files = append(d.Files, p.files[id])
	}
	for _, id := range sorted(p.pipes) {
		d.Pipes = append(d.Pipes, p.pipes[id])
	}
	for _, id := range sorted(p.socks) {
		d.Socks = append(d.Socks, p.socks[id])
	}
	for _, ino := range sorted(p.nodes) {
		d.Inodes = append(d.Inodes, p.nodes[ino].told(ino))
	}
	return d
}

// told answers all of an inode.
func (n node) told(ino int) api.Inode {
	x := api.Inode{Ino: ino, Kind: n.kind, Links: n.links, Holds: n.holds, Parent: n.parent, Text: n.text, Blocks: len(n.blocks)}
	for _, name := range slices.Sorted(maps.Keys(n.entries)) {
		x.Names = append(x.Names, name)
		x.Inos = append(x.Inos, n.entries[name])
	}
	return x
}
