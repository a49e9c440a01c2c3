package fscalls

import (
	"cmp"
	"slices"
	"strings"

	"purlieu/api"
	"purlieu/world"
)

// plain is the chapter's words on a dump: each call answers what comes of it, and changes the dump. It knows none of the tables that a world has, but which blocks each file has, which no dump tells.
type plain struct {
	d      api.Dump
	l      api.Limits
	blocks map[int]map[int]bool
}

// newPlain answers what there is in a world, whose files are without holes.
func newPlain(w *world.World) *plain {
	p := &plain{l: w.Limits(), blocks: map[int]map[int]bool{}}
	p.sees(w)
	for _, x := range p.d.Inodes {
		p.lays(x.Ino, 0, x.Blocks*64)
	}
	return p
}

// sees takes over what there is after something that is no call of this chapter, and writes no file.
func (p *plain) sees(w *world.World) {
	p.d = copied(w.Dump())
	for _, x := range p.d.Inodes {
		if x.Blocks == 0 {
			delete(p.blocks, x.Ino)
		}
	}
}

// copied answers a dump in new memory.
func copied(d api.Dump) api.Dump {
	d.Procs, d.Held, d.Parks, d.Files, d.Pipes, d.Socks, d.Inodes = slices.Clone(d.Procs), slices.Clone(d.Held), slices.Clone(d.Parks), slices.Clone(d.Files), slices.Clone(d.Pipes), slices.Clone(d.Socks), slices.Clone(d.Inodes)
	for i, x := range d.Socks {
		d.Socks[i].Parts = slices.Clone(x.Parts)
		for j, part := range d.Socks[i].Parts {
			d.Socks[i].Parts[j].B = slices.Clone(part.B)
		}
	}
	return d
}

// found answers the one of l that is it, or one without anything.
func found[T any](l []T, is func(T) bool) *T {
	if i := slices.IndexFunc(l, is); i >= 0 {
		return &l[i]
	}
	return new(T)
}

func (p *plain) proc(pid int) *api.Proc {
	return found(p.d.Procs, func(x api.Proc) bool { return x.Pid == pid })
}

func (p *plain) held(pid, fd int) *api.Held {
	return found(p.d.Held, func(x api.Held) bool { return x.Pid == pid && x.Fd == fd })
}

func (p *plain) file(id int) *api.File {
	return found(p.d.Files, func(x api.File) bool { return x.ID == id })
}

func (p *plain) pipe(id int) *api.Pipe {
	return found(p.d.Pipes, func(x api.Pipe) bool { return x.ID == id })
}

func (p *plain) sock(id int) *api.Sock {
	return found(p.d.Socks, func(x api.Sock) bool { return x.ID == id })
}

func (p *plain) inode(ino int) *api.Inode {
	return found(p.d.Inodes, func(x api.Inode) bool { return x.Ino == ino })
}

// call answers what comes of a call; with an error all is as it was.
func (p *plain) call(pid int, r api.Req) api.Res {
	was := copied(p.d)
	x := p.does(pid, r)
	if x.Err != api.OK {
		p.d = was
		return api.Res{Err: x.Err}
	}
	return x
}

// shaped is what chapter 16 asks of requests of these calls.
func shaped(r api.Req) bool {
	shape := shapes[r.No]
	most := 0
	if strings.HasSuffix(shape, "B") {
		shape, most = shape[:len(shape)-1], 256
	}
	for i, n := range r.A {
		to := map[byte]int{'n': 256, 'o': 1 << 40, 'w': 2, 'c': 64}
		switch {
		case i >= len(shape) && n != 0:
			return false
		case i < len(shape) && to[shape[i]] > 0 && (n < 0 || n > to[shape[i]]):
			return false
		}
	}
	return len(r.S) <= most && r.T == "" && len(r.L) == 0
}

// does is P19.1, and then what comes of the call.
func (p *plain) does(pid int, r api.Req) api.Res {
	switch {
	case !p.proc(pid).Lives:
		return api.Res{Err: api.ESRCH}
	case !slices.Contains(chapter, r.No):
		return api.Res{Err: api.ENOSYS}
	case !shaped(r):
		return api.Res{Err: api.EINVAL}
	}
	h := *p.held(pid, r.A[0])
	need := needs[r.No]
	if r.No == lseek {
		need = api.CapSeek
		if r.A[1] == 0 && r.A[2] == 1 {
			need = api.CapTell
		}
	}
	switch {
	case h.Slot.File == 0:
		return api.Res{Err: api.EBADF}
	case h.Slot.Rights&need != need:
		return api.Res{Err: api.ENOTCAPABLE}
	}
	f := p.file(h.Slot.File)
	switch r.No {
	case read:
		s, e := p.read(f, r.A[1])
		return api.Res{Val: len(s), S: s, Err: e}
	case pread:
		s, e := p.pread(f, r.A[1], r.A[2])
		return api.Res{Val: len(s), S: s, Err: e}
	case getdents:
		l, e := p.getdents(f, r.A[1])
		return api.Res{Val: len(l), S: strings.Join(l, "/"), Err: e}
	case fstat:
		return api.Res{L: p.fstat(f)}
	}
	n, e := p.counts(h, f, r)
	return api.Res{Val: n, Err: e}
}

// counts is what comes of calls that answer just a number.
func (p *plain) counts(h api.Held, f *api.File, r api.Req) (int, api.Errno) {
	switch r.No {
	case write:
		return p.write(f, r.S)
	case pwrite:
		return p.pwrite(f, r.A[1], r.S)
	case closes:
		p.closes(h)
		return 0, api.OK
	case dup:
		return p.dup(h, 0)
	case dup2:
		return p.onto(h, r.A[1])
	case fcntl:
		return p.fcntl(h, f, r.A[1], r.A[2])
	case ioctl:
		return p.ioctl(h, f, r.A[1], r.A[2])
	case lseek:
		return p.lseek(f, r.A[1], r.A[2])
	case ftruncate:
		return 0, p.ftruncate(f, r.A[1])
	}
	if f.Kind == api.KFile || f.Kind == api.KDir {
		return 0, api.OK
	}
	return 0, api.EINVAL
}

// wait is what a call tells that would wait.
func wait(f *api.File) api.Errno {
	if f.Flags&4 == 4 {
		return api.EAGAIN
	}
	return api.EWAIT
}

// cut answers up to n bytes of s from off on.
func cut(s string, off, n int) string {
	if off >= len(s) {
		return ""
	}
	return s[off:min(len(s), off+n)]
}

func (p *plain) read(f *api.File, n int) (string, api.Errno) {
	switch {
	case f.Kind == api.KDir:
		return "", api.EISDIR
	case f.Kind == api.KProc:
		return "", api.EOPNOTSUPP
	case f.Flags&3 == 1:
		return "", api.EBADF
	case f.Kind == api.KSock:
		return p.recv(f, n)
	case f.Kind == api.KPipe:
		x := p.pipe(f.Obj)
		if n > 0 && x.B == "" && x.Writes {
			return "", wait(f)
		}
		s := cut(x.B, 0, n)
		x.B = x.B[len(s):]
		return s, api.OK
	}
	s := cut(p.inode(f.Obj).Text, f.Off, n)
	f.Off += len(s)
	return s, api.OK
}

// recv takes bytes of the first part, and of those behind it with which nothing is passed.
func (p *plain) recv(f *api.File, n int) (string, api.Errno) {
	x := p.sock(f.Obj)
	switch {
	case x.State != api.SockJoined:
		return "", api.ENOTCONN
	case n == 0:
		return "", api.OK
	case len(x.Parts) == 0 && (x.ShutR || x.Peer == 0 || p.sock(x.Peer).ShutW):
		return "", api.OK
	case len(x.Parts) == 0:
		return "", wait(f)
	}
	passed := x.Parts[0].L
	x.Parts[0].L = nil
	s := ""
	for len(x.Parts) > 0 && len(s) < n && len(x.Parts[0].L) == 0 {
		b := cut(string(x.Parts[0].B), 0, n-len(s))
		s += b
		if x.Parts[0].B = x.Parts[0].B[len(b):]; len(x.Parts[0].B) == 0 {
			x.Parts = x.Parts[1:]
		}
	}
	for _, y := range passed {
		p.drop(y.File)
	}
	return s, api.OK
}

func (p *plain) pread(f *api.File, n, off int) (string, api.Errno) {
	switch {
	case f.Kind == api.KDir:
		return "", api.EISDIR
	case f.Kind != api.KFile:
		return "", api.ESPIPE
	case f.Flags&3 == 1:
		return "", api.EBADF
	}
	return cut(p.inode(f.Obj).Text, off, n), api.OK
}

func (p *plain) write(f *api.File, s string) (int, api.Errno) {
	switch {
	case f.Kind == api.KProc:
		return 0, api.EOPNOTSUPP
	case f.Flags&3 == 0:
		return 0, api.EBADF
	case f.Kind == api.KSock:
		return p.send(f, s)
	case f.Kind == api.KDir:
		return 0, api.EINVAL
	case f.Kind == api.KPipe:
		x := p.pipe(f.Obj)
		room := p.l.Pipe - len(x.B)
		switch {
		case !x.Reads:
			return 0, api.EPIPE
		case s != "" && room == 0:
			return 0, wait(f)
		}
		s = cut(s, 0, room)
		x.B += s
		return len(s), api.OK
	}
	off := f.Off
	if f.Flags&8 == 8 {
		off = len(p.inode(f.Obj).Text)
	}
	e := p.puts(f.Obj, off, s)
	f.Off = off + len(s)
	return len(s), e
}

func (p *plain) send(f *api.File, s string) (int, api.Errno) {
	x := p.sock(f.Obj)
	to := p.sock(x.Peer)
	switch {
	case x.State != api.SockJoined:
		return 0, api.ENOTCONN
	case s == "":
		return 0, api.OK
	case x.ShutW, x.Peer == 0, to.ShutR:
		return 0, api.EPIPE
	}
	room := p.l.Sock
	for _, part := range to.Parts {
		room -= len(part.B)
	}
	if room == 0 {
		return 0, wait(f)
	}
	if len(to.Parts) == 0 {
		to.Parts = []api.Part{{}}
	}
	s = cut(s, 0, room)
	last := &to.Parts[len(to.Parts)-1]
	last.B = append(slices.Clip(last.B), s...)
	return len(s), api.OK
}

func (p *plain) pwrite(f *api.File, off int, s string) (int, api.Errno) {
	switch {
	case f.Kind != api.KFile:
		return 0, api.ESPIPE
	case f.Flags&3 == 0:
		return 0, api.EBADF
	}
	return len(s), p.puts(f.Obj, off, s)
}

// lays lets a file have all blocks in which the bytes from off to end lie.
func (p *plain) lays(ino, off, end int) {
	if p.blocks[ino] == nil {
		p.blocks[ino] = map[int]bool{}
	}
	for i := off; i < end; i++ {
		p.blocks[ino][i/64] = true
	}
}

// puts writes bytes into a file.
func (p *plain) puts(ino, off int, s string) api.Errno {
	if off+len(s) > 65536 {
		return api.EFBIG
	}
	need, room := map[int]bool{}, p.l.Blocks
	for i := range s {
		if b := (off + i) / 64; !p.blocks[ino][b] {
			need[b] = true
		}
	}
	for _, x := range p.d.Inodes {
		room -= x.Blocks
	}
	if len(need) > room {
		return api.ENOSPC
	}
	if s == "" {
		return api.OK
	}
	p.lays(ino, off, off+len(s))
	x := p.inode(ino)
	x.Blocks += len(need)
	t := x.Text + strings.Repeat("\x00", max(0, off+len(s)-len(x.Text)))
	x.Text = t[:off] + s + t[off+len(s):]
	return api.OK
}

func (p *plain) ftruncate(f *api.File, n int) api.Errno {
	switch {
	case f.Kind != api.KFile, f.Flags&3 == 0:
		return api.EINVAL
	case n > 65536:
		return api.EFBIG
	}
	x := p.inode(f.Obj)
	x.Text = cut(x.Text, 0, n)
	x.Text += strings.Repeat("\x00", n-len(x.Text))
	for b := range p.blocks[f.Obj] {
		if b*64 >= n {
			delete(p.blocks[f.Obj], b)
		}
	}
	x.Blocks = len(p.blocks[f.Obj])
	return api.OK
}

// closes takes a descriptor away.
func (p *plain) closes(h api.Held) {
	p.d.Held = slices.DeleteFunc(p.d.Held, func(x api.Held) bool { return x.Pid == h.Pid && x.Fd == h.Fd })
	p.drop(h.Slot.File)
}

// drop lets one less name an open file, as P17.4 says.
func (p *plain) drop(id int) {
	f := p.file(id)
	if f.Refs--; f.Refs > 0 {
		return
	}
	gone := *f
	p.d.Files = slices.DeleteFunc(p.d.Files, func(x api.File) bool { return x.ID == id })
	switch gone.Kind {
	case api.KPipe:
		x := p.pipe(gone.Obj)
		if gone.Flags&1 == 1 {
			x.Writes = false
		} else {
			x.Reads, x.B = false, ""
		}
		p.d.Pipes = slices.DeleteFunc(p.d.Pipes, func(x api.Pipe) bool { return !x.Reads && !x.Writes })
	case api.KSock:
		p.shuts(gone.Obj)
	case api.KProc:
		p.ends(gone.Obj)
	default:
		p.lets(gone.Obj)
	}
}

// lets takes a hold from an inode.
func (p *plain) lets(ino int) {
	p.inode(ino).Holds--
	p.d.Inodes = slices.DeleteFunc(p.d.Inodes, func(x api.Inode) bool { return x.Links+x.Holds == 0 })
}

// shuts closes a socket, and those that wait at it.
func (p *plain) shuts(id int) {
	x := *p.sock(id)
	p.d.Socks = slices.DeleteFunc(p.d.Socks, func(x api.Sock) bool { return x.ID == id })
	p.sock(x.Peer).Peer = 0
	for _, other := range x.Waits {
		p.shuts(other)
	}
	for _, part := range x.Parts {
		for _, y := range part.L {
			p.drop(y.File)
		}
	}
}

// ends ends a process whose last descriptor is gone.
func (p *plain) ends(pid int) {
	x := p.proc(pid)
	if x.Lives && pid != 1 {
		cwd := x.Cwd
		x.Lives, x.Code, x.Cwd = false, 137, 0
		for i := range p.d.Procs {
			if p.d.Procs[i].Parent == pid {
				p.d.Procs[i].Parent = 1
			}
		}
		p.d.Parks = slices.DeleteFunc(p.d.Parks, func(x api.Park) bool { return x.Pid == pid })
		p.lets(cwd)
		for fd := range p.l.Fds {
			if h := *p.held(pid, fd); h.Slot.File != 0 {
				p.closes(h)
			}
		}
	}
	p.d.Procs = slices.DeleteFunc(p.d.Procs, func(x api.Proc) bool { return x.Pid == pid && !x.Lives })
}

// gives lets a process have a descriptor at a number that is free.
func (p *plain) gives(pid, fd int, s api.Slot) {
	p.d.Held = append(p.d.Held, api.Held{Pid: pid, Fd: fd, Slot: s})
	slices.SortFunc(p.d.Held, func(a, b api.Held) int { return cmp.Or(a.Pid-b.Pid, a.Fd-b.Fd) })
	p.file(s.File).Refs++
}

func (p *plain) dup(h api.Held, from int) (int, api.Errno) {
	if from < 0 || from >= p.l.Fds {
		return 0, api.EINVAL
	}
	for fd := from; fd < p.l.Fds; fd++ {
		if p.held(h.Pid, fd).Slot.File == 0 {
			p.gives(h.Pid, fd, h.Slot)
			return fd, api.OK
		}
	}
	return 0, api.EMFILE
}

func (p *plain) onto(h api.Held, to int) (int, api.Errno) {
	switch {
	case to < 0, to >= p.l.Fds:
		return 0, api.EBADF
	case to == h.Fd:
		return to, api.OK
	}
	was := *p.held(h.Pid, to)
	p.d.Held = slices.DeleteFunc(p.d.Held, func(x api.Held) bool { return x.Pid == h.Pid && x.Fd == to })
	p.gives(h.Pid, to, h.Slot)
	if was.Slot.File != 0 {
		p.drop(was.Slot.File)
	}
	return to, api.OK
}

func (p *plain) fcntl(h api.Held, f *api.File, cmd, arg int) (int, api.Errno) {
	if cmd == 0 {
		return p.dup(h, arg)
	}
	if cmd < 3 || cmd > 6 {
		return 0, api.EINVAL
	}
	bit := []int{3: 8, 4: 16, 5: 32, 6: 64}[cmd]
	switch {
	case h.Slot.Rights&api.CapFcntl == 0, h.Slot.Fcntls&bit == 0:
		return 0, api.ENOTCAPABLE
	case cmd == 3:
		return f.Flags, api.OK
	case cmd == 6 && arg < 0:
		return 0, api.EINVAL
	case cmd == 4:
		switch arg {
		case 0, 4, 8, 12:
			f.Flags = f.Flags&3 | arg
		default:
			return 0, api.EINVAL
		}
	}
	return 0, api.OK
}

// bytes answers how many bytes wait in a pipe or a socket.
func (p *plain) bytes(f *api.File) int {
	n := 0
	switch f.Kind {
	case api.KPipe:
		n = len(p.pipe(f.Obj).B)
	case api.KSock:
		for _, part := range p.sock(f.Obj).Parts {
			n += len(part.B)
		}
	}
	return n
}

func (p *plain) ioctl(h api.Held, f *api.File, cmd, arg int) (int, api.Errno) {
	can := h.Slot.Ioctls.All && cmd >= 0 || slices.Contains(h.Slot.Ioctls.L, cmd)
	switch {
	case !can:
		return 0, api.ENOTCAPABLE
	case cmd == 1 && f.Kind == api.KFile:
		return len(cut(p.inode(f.Obj).Text, f.Off, 65536)), api.OK
	case cmd == 1:
		return p.bytes(f), api.OK
	case cmd == 2 && arg == 1:
		f.Flags |= 4
	case cmd == 2 && arg == 0:
		f.Flags &= 11
	case cmd == 2:
		return 0, api.EINVAL
	default:
		return 0, api.ENOTTY
	}
	return 0, api.OK
}

func (p *plain) lseek(f *api.File, off, how int) (int, api.Errno) {
	if f.Kind != api.KFile && f.Kind != api.KDir {
		return 0, api.ESPIPE
	}
	x := p.inode(f.Obj)
	from := []int{0, f.Off, len(x.Text) + len(x.Names)}[how]
	if off < -from || off > 65536-from {
		return 0, api.EINVAL
	}
	f.Off = from + off
	return f.Off, api.OK
}

func (p *plain) getdents(f *api.File, n int) ([]string, api.Errno) {
	x := p.inode(f.Obj)
	switch {
	case f.Kind != api.KDir:
		return nil, api.ENOTDIR
	case x.Links == 0 && x.Ino != 1:
		return nil, api.ENOENT
	}
	from := min(f.Off, len(x.Names))
	l := x.Names[from:min(len(x.Names), from+n)]
	f.Off += len(l)
	return l, api.OK
}

func (p *plain) fstat(f *api.File) []int {
	if f.Kind != api.KFile && f.Kind != api.KDir {
		return []int{f.Kind, p.bytes(f), 0, 0}
	}
	x := p.inode(f.Obj)
	return []int{x.Kind, len(x.Text) + len(x.Names), x.Links, x.Blocks}
}
