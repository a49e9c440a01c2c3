package dircalls

import (
	"cmp"
	"fmt"
	"slices"
	"strings"

	"purlieu/api"
)

// plain is the chapter's words on a dump: each call answers what comes of it, and changes the dump. It knows none of the tables that a world has.
type plain struct {
	d   api.Dump
	l   api.Limits
	pid int
}

// copied answers a dump in new memory.
func copied(d api.Dump) api.Dump {
	d.Procs, d.Held, d.Files, d.Inodes = slices.Clone(d.Procs), slices.Clone(d.Held), slices.Clone(d.Files), slices.Clone(d.Inodes)
	for i, x := range d.Inodes {
		d.Inodes[i].Names, d.Inodes[i].Inos = slices.Clone(x.Names), slices.Clone(x.Inos)
	}
	return d
}

// expect answers what comes of a call, and what is there then.
func expect(d api.Dump, l api.Limits, pid int, r api.Req) (api.Res, api.Dump) {
	p := &plain{copied(d), l, pid}
	x := p.call(r)
	if x.Err != api.OK {
		return api.Res{Err: x.Err}, d
	}
	return x, p.d
}

// proc answers the process itself, if it lives.
func (p *plain) proc() *api.Proc {
	for i := range p.d.Procs {
		if q := &p.d.Procs[i]; q.Pid == p.pid && q.Lives {
			return q
		}
	}
	return nil
}

// inode answers an inode, or one without a kind.
func (p *plain) inode(ino int) *api.Inode {
	for i := range p.d.Inodes {
		if p.d.Inodes[i].Ino == ino {
			return &p.d.Inodes[i]
		}
	}
	return &api.Inode{}
}

// let lets inodes go that nobody names.
func (p *plain) let() {
	p.d.Inodes = slices.DeleteFunc(p.d.Inodes, func(x api.Inode) bool { return x.Links+x.Holds == 0 })
}

// call is P18.1, and then what comes of the call.
func (p *plain) call(r api.Req) api.Res {
	switch {
	case p.proc() == nil:
		return api.Res{Err: api.ESRCH}
	case !slices.Contains(groups["dircalls"], r.No):
		return api.Res{Err: api.ENOSYS}
	case !p.shaped(r):
		return api.Res{Err: api.EINVAL}
	case p.proc().Cap && (slices.Contains(never, r.No) || r.A[0] == cwd || r.A[1] == cwd && (r.No == renameat || r.No == linkat)):
		return api.Res{Err: api.ECAPMODE}
	}
	a, b, e := p.bases(r)
	if e != api.OK {
		return api.Res{Err: e}
	}
	switch r.No {
	case open:
		return p.open(a, r.A[0], r.S)
	case openat:
		return p.open(a, r.A[1], r.S)
	case stat:
		return p.stat(a, r.A[0], r.S)
	case fstatat:
		return p.stat(a, r.A[1], r.S)
	case readlink, readlinkat:
		return p.readlink(a, r.S)
	}
	return api.Res{Err: p.changes(r, a, b)}
}

// changes is what comes of calls that answer no more than whether they could be done.
func (p *plain) changes(r api.Req, a, b ground) api.Errno {
	switch r.No {
	case mkdir, mkdirat:
		return p.mkdir(a, r.S)
	case symlink, symlinkat:
		return p.symlink(a, r.S, r.T)
	case link:
		return p.link(a, b, 0, r.S, r.T)
	case linkat:
		return p.link(a, b, r.A[2], r.S, r.T)
	case unlink:
		return p.unlink(a, 0, r.S)
	case rmdir:
		return p.unlink(a, 1, r.S)
	case unlinkat:
		return p.unlink(a, r.A[1], r.S)
	case rename, renameat:
		return p.rename(a, b, r.S, r.T)
	case chdir:
		return p.chdir(a, r.S)
	}
	return p.fchdir(r.A[0])
}

// numbers are how many numbers each call has, and texts.
var numbers = map[int][2]int{
	open: {1, 1}, link: {0, 2}, unlink: {0, 1}, chdir: {0, 1}, fchdir: {1, 0}, mkdir: {0, 1}, rmdir: {0, 1}, symlink: {0, 2}, readlink: {0, 1}, rename: {0, 2}, stat: {1, 1},
	openat: {2, 1}, mkdirat: {1, 1}, unlinkat: {2, 1}, renameat: {2, 2}, linkat: {3, 2}, symlinkat: {1, 2}, readlinkat: {1, 1}, fstatat: {2, 1},
}

// shaped is what chapter 16 asks of requests of these calls.
func (p *plain) shaped(r api.Req) bool {
	n := numbers[r.No]
	for _, x := range r.A[n[0]:] {
		if x != 0 {
			return false
		}
	}
	if len(r.L) > 0 || n[1] < 2 && r.T != "" || n[1] < 1 && r.S != "" || max(len(r.S), len(r.T)) > api.MaxText {
		return false
	}
	how := func(n int) bool { return n == 0 || n == 1 }
	switch r.No {
	case open:
		return flagged(r.A[0])
	case openat:
		return flagged(r.A[1])
	case stat:
		return how(r.A[0])
	case unlinkat, fstatat:
		return how(r.A[1])
	case linkat:
		return how(r.A[2])
	}
	return true
}

// flagged tells whether flags can be, as chapter 15 says.
func flagged(f int) bool {
	known := wr | both | nonblock | app | nofollow | creat | trunc | excl | direct
	return f&^known == 0 && f&3 != 3 && (f&trunc == 0 || f&3 != 0) && f&(creat|direct) != creat|direct
}

// ground is a base: the directory, whether all has to stay in it, and what is handed on.
type ground struct {
	dir  int
	held bool
	like api.Slot
}

// bases answers both bases of a call, as far as it has them.
func (p *plain) bases(r api.Req) (a, b ground, e api.Errno) {
	need := needs[r.No]
	if r.No == openat {
		need[0] = api.CapLookup
		for _, x := range []struct {
			on    bool
			right api.Rights
		}{{r.A[1]&wr == 0, api.CapRead}, {r.A[1]&3 > 0, api.CapWrite}, {r.A[1]&creat > 0, api.CapCreate}, {r.A[1]&trunc > 0, api.CapTruncate}} {
			if x.on {
				need[0] |= x.right
			}
		}
	}
	here := ground{p.proc().Cwd, false, api.Slot{Rights: api.CapAll, Ioctls: api.List{All: true}, Fcntls: 120}}
	a, b = here, here
	if need[0] != 0 && r.A[0] != cwd {
		if a, e = p.base(r.A[0], need[0]); e != api.OK {
			return a, b, e
		}
	}
	if need[1] != 0 && r.A[1] != cwd {
		b, e = p.base(r.A[1], need[1])
	}
	return a, b, e
}

// base answers the base of a directory's number.
func (p *plain) base(d int, need api.Rights) (ground, api.Errno) {
	for _, h := range p.d.Held {
		if h.Pid != p.pid || h.Fd != d {
			continue
		}
		if h.Slot.Rights&need != need {
			return ground{}, api.ENOTCAPABLE
		}
		for _, f := range p.d.Files {
			if f.ID == h.Slot.File && f.Kind == api.KDir {
				if p.proc().Cap || h.Slot.Rights != 1<<32-1 {
					return ground{f.Obj, true, h.Slot}, api.OK
				}
				return ground{f.Obj, false, api.Slot{Rights: api.CapAll, Ioctls: api.List{All: true}, Fcntls: 120}}, api.OK
			}
		}
		return ground{}, api.ENOTDIR
	}
	return ground{}, api.EBADF
}

// spot is what a path leads to: the directory, the name in it, what that leads to, and whether a slash is behind.
type spot struct {
	dir   int
	name  string
	ino   int
	slash bool
}

// walk goes a path, as chapter 8 says it.
func (p *plain) walk(g ground, s string, follow, parent bool) (spot, api.Errno) {
	links := 0
	var goes func(dir int, s string, rest []string, slash bool) (spot, api.Errno)
	goes = func(dir int, s string, rest []string, slash bool) (spot, api.Errno) {
		parts, e := p.parts(s)
		if e != api.OK {
			return spot{}, e
		}
		if s[0] == '/' {
			if g.held {
				return spot{}, api.ENOTCAPABLE
			}
			dir = 1
		}
		if len(rest) == 0 && len(parts) > 0 && strings.HasSuffix(s, "/") {
			slash = true
		}
		parts = append(parts, rest...)
		for len(parts) > 0 {
			part, last := parts[0], len(parts) == 1
			parts = parts[1:]
			ino, e := p.look(g, dir, part)
			if e == -api.ENOENT && last && parent {
				return spot{dir, part, 0, slash}, api.OK
			}
			if e != api.OK {
				return spot{}, max(e, -e)
			}
			x := p.inode(ino)
			switch {
			case x.Kind == api.KSymlink && (!last || follow || slash):
				if links++; links > 8 {
					return spot{}, api.ELOOP
				}
				return goes(dir, x.Text, parts, slash)
			case last && (part == "." || part == ".."):
				return spot{ino, "", ino, slash}, api.OK
			case last && slash && x.Kind != api.KDir:
				return spot{}, api.ENOTDIR
			case last:
				return spot{dir, part, ino, slash}, api.OK
			}
			dir = ino
		}
		return spot{dir, "", dir, slash}, api.OK
	}
	return goes(g.dir, s, nil, false)
}

// parts answers the parts of a path.
func (p *plain) parts(s string) ([]string, api.Errno) {
	parts := slices.DeleteFunc(strings.Split(s, "/"), func(part string) bool { return part == "" })
	switch {
	case s == "":
		return nil, api.ENOENT
	case len(s) > 256:
		return nil, api.ENAMETOOLONG
	case strings.Contains(s, "\x00"):
		return nil, api.EINVAL
	case slices.ContainsFunc(parts, func(part string) bool { return len(part) > 32 }):
		return nil, api.ENAMETOOLONG
	}
	return parts, api.OK
}

// into answers why a directory is none to go into.
func (p *plain) into(dir int) api.Errno {
	switch x := p.inode(dir); {
	case x.Ino == 0:
		return api.ENOENT
	case x.Kind != api.KDir:
		return api.ENOTDIR
	case x.Links == 0 && x.Ino != 1:
		return api.ENOENT
	}
	return api.OK
}

// look answers what a part leads to: below 0 it tells that there is just no such name.
func (p *plain) look(g ground, dir int, part string) (int, api.Errno) {
	if e := p.into(dir); e != api.OK {
		return 0, e
	}
	x := p.inode(dir)
	switch {
	case part == ".":
		return dir, api.OK
	case part == ".." && g.held:
		return 0, api.ENOTCAPABLE
	case part == "..":
		return x.Parent, api.OK
	}
	if at := slices.Index(x.Names, part); at >= 0 {
		return x.Inos[at], api.OK
	}
	return 0, -api.ENOENT
}

// enters gives a directory an entry.
func (p *plain) enters(dir int, name string, ino int) {
	x := p.inode(dir)
	at, _ := slices.BinarySearch(x.Names, name)
	x.Names, x.Inos = slices.Insert(x.Names, at, name), slices.Insert(x.Inos, at, ino)
	p.inode(ino).Links++
}

// leaves takes an entry from a directory.
func (p *plain) leaves(dir int, name string) {
	x := p.inode(dir)
	at := slices.Index(x.Names, name)
	p.inode(x.Inos[at]).Links--
	x.Names, x.Inos = slices.Delete(x.Names, at, at+1), slices.Delete(x.Inos, at, at+1)
}

// makes makes an inode with an entry.
func (p *plain) makes(x spot, kind int, text string) (int, api.Errno) {
	switch {
	case kind == api.KSymlink && text == "":
		return 0, api.ENOENT
	case len(text) > 256:
		return 0, api.ENAMETOOLONG
	case strings.Contains(text, "\x00"):
		return 0, api.EINVAL
	case len(p.inode(x.dir).Names) == 64, len(p.d.Inodes) == p.l.Inodes:
		return 0, api.ENOSPC
	}
	made := api.Inode{Ino: p.d.Next[4], Kind: kind, Text: text}
	if kind == api.KDir {
		made.Parent = x.dir
	}
	p.d.Next[4]++
	p.d.Inodes = append(p.d.Inodes, made)
	p.enters(x.dir, x.name, made.Ino)
	return made.Ino, api.OK
}

// full tells why the process can't open one more.
func (p *plain) full() api.Errno {
	held := 0
	for _, h := range p.d.Held {
		if h.Pid == p.pid {
			held++
		}
	}
	switch {
	case held == p.l.Fds:
		return api.EMFILE
	case len(p.d.Files) == p.l.Files:
		return api.ENFILE
	}
	return api.OK
}

// opens opens an inode, and answers the descriptor.
func (p *plain) opens(ino, flags int, like api.Slot) int {
	fd := 0
	for slices.ContainsFunc(p.d.Held, func(h api.Held) bool { return h.Pid == p.pid && h.Fd == fd }) {
		fd++
	}
	like.File = p.d.Next[1]
	p.d.Next[1]++
	p.d.Files = append(p.d.Files, api.File{ID: like.File, Kind: p.inode(ino).Kind, Obj: ino, Flags: flags & 15, Refs: 1})
	p.d.Held = append(p.d.Held, api.Held{Pid: p.pid, Fd: fd, Slot: like})
	slices.SortFunc(p.d.Held, func(a, b api.Held) int { return cmp.Or(a.Pid-b.Pid, a.Fd-b.Fd) })
	p.inode(ino).Holds++
	return fd
}

// open is P18.3.
func (p *plain) open(g ground, flags int, s string) api.Res {
	has := func(f int) bool { return flags&f > 0 }
	x, e := p.walk(g, s, !has(nofollow) && !(has(creat) && has(excl)), has(creat))
	kind := p.inode(x.ino).Kind
	file := kind == api.KFile
	switch {
	case e != api.OK:
	case x.ino == 0 && x.slash:
		e = api.EISDIR
	case x.ino > 0 && has(creat) && has(excl):
		e = api.EEXIST
	case kind == api.KSymlink:
		e = api.ELOOP
	case kind == api.KBound:
		e = api.EOPNOTSUPP
	case kind == api.KDir && (has(wr) || has(both) || has(creat)):
		e = api.EISDIR
	case file && has(direct):
		e = api.ENOTDIR
	default:
		e = p.full()
	}
	if e == api.OK && x.ino == 0 {
		x.ino, e = p.makes(x, api.KFile, "")
	}
	if e != api.OK {
		return api.Res{Err: e}
	}
	if file && has(trunc) {
		p.inode(x.ino).Text, p.inode(x.ino).Blocks = "", 0
	}
	return api.Res{Val: p.opens(x.ino, flags, g.like)}
}

// absent answers where a name is of which there is none.
func (p *plain) absent(g ground, s string, slash bool) (spot, api.Errno) {
	x, e := p.walk(g, s, false, true)
	switch {
	case e != api.OK:
		return x, e
	case x.ino > 0:
		return x, api.EEXIST
	case x.slash && !slash:
		return x, api.ENOENT
	}
	return x, api.OK
}

func (p *plain) mkdir(g ground, s string) api.Errno {
	x, e := p.absent(g, s, true)
	if e == api.OK {
		_, e = p.makes(x, api.KDir, "")
	}
	return e
}

func (p *plain) symlink(g ground, s, t string) api.Errno {
	x, e := p.absent(g, t, false)
	if e == api.OK {
		_, e = p.makes(x, api.KSymlink, s)
	}
	return e
}

func (p *plain) link(g, g2 ground, how int, s, t string) api.Errno {
	x, e := p.walk(g, s, how == 1, false)
	if e == api.OK && p.inode(x.ino).Kind == api.KDir {
		e = api.EPERM
	}
	if e != api.OK {
		return e
	}
	y, e := p.absent(g2, t, false)
	switch {
	case e != api.OK:
		return e
	case p.inode(x.ino).Links == 32:
		return api.EMLINK
	case len(p.inode(y.dir).Names) == 64:
		return api.ENOSPC
	}
	p.enters(y.dir, y.name, x.ino)
	return api.OK
}

// entry answers what a path leads to, if it has a name.
func (p *plain) entry(g ground, s string, parent bool) (spot, api.Errno) {
	x, e := p.walk(g, s, false, parent)
	if e == api.OK && x.name == "" {
		e = api.EINVAL
	}
	return x, e
}

func (p *plain) unlink(g ground, how int, s string) api.Errno {
	x, e := p.entry(g, s, false)
	goes := p.inode(x.ino)
	switch {
	case e != api.OK:
		return e
	case how == 0 && goes.Kind == api.KDir:
		return api.EPERM
	case how == 1 && goes.Kind != api.KDir:
		return api.ENOTDIR
	case how == 1 && len(goes.Names) > 0:
		return api.ENOTEMPTY
	}
	p.leaves(x.dir, x.name)
	p.let()
	return api.OK
}

// above tells whether a directory is dir, or dir lies in it.
func (p *plain) above(ino, dir int) bool {
	for ; dir != ino; dir = p.inode(dir).Parent {
		if dir <= 1 {
			return false
		}
	}
	return true
}

func (p *plain) rename(g, g2 ground, s, t string) api.Errno {
	x, e := p.entry(g, s, false)
	if e != api.OK {
		return e
	}
	y, e := p.entry(g2, t, true)
	dir := p.inode(x.ino).Kind == api.KDir
	was := p.inode(y.ino)
	switch {
	case e != api.OK:
		return e
	case y.slash && !dir:
		return api.ENOTDIR
	case x.ino == y.ino:
		return api.OK
	case dir && p.above(x.ino, y.dir):
		return api.EINVAL
	case y.ino > 0 && dir && was.Kind != api.KDir:
		return api.ENOTDIR
	case dir && len(was.Names) > 0:
		return api.ENOTEMPTY
	case was.Kind == api.KDir && !dir:
		return api.EISDIR
	case y.ino == 0 && x.dir != y.dir && len(p.inode(y.dir).Names) == 64:
		return api.ENOSPC
	}
	p.leaves(x.dir, x.name)
	if y.ino > 0 {
		p.leaves(y.dir, y.name)
	}
	p.enters(y.dir, y.name, x.ino)
	if dir {
		p.inode(x.ino).Parent = y.dir
	}
	p.let()
	return api.OK
}

// moves lets the process be in a directory.
func (p *plain) moves(dir int) api.Errno {
	if e := p.into(dir); e != api.OK {
		return e
	}
	p.inode(dir).Holds++
	p.inode(p.proc().Cwd).Holds--
	p.proc().Cwd = dir
	p.let()
	return api.OK
}

func (p *plain) chdir(g ground, s string) api.Errno {
	x, e := p.walk(g, s, true, false)
	switch {
	case e != api.OK:
		return e
	case p.inode(x.ino).Kind != api.KDir:
		return api.ENOTDIR
	}
	return p.moves(x.ino)
}

func (p *plain) fchdir(fd int) api.Errno {
	g, e := p.base(fd, api.CapChdir)
	if e != api.OK {
		return e
	}
	return p.moves(g.dir)
}

func (p *plain) readlink(g ground, s string) api.Res {
	x, e := p.walk(g, s, false, false)
	switch {
	case e != api.OK:
		return api.Res{Err: e}
	case p.inode(x.ino).Kind != api.KSymlink:
		return api.Res{Err: api.EINVAL}
	}
	target := p.inode(x.ino).Text
	return api.Res{Val: len(target), S: target}
}

func (p *plain) stat(g ground, how int, s string) api.Res {
	x, e := p.walk(g, s, how == 0, false)
	if e != api.OK {
		return api.Res{Err: e}
	}
	n := p.inode(x.ino)
	return api.Res{L: []int{n.Kind, len(n.Text) + len(n.Names), n.Links, n.Blocks}}
}

// told tells a dump and an answer as a text.
func told(x api.Res, d api.Dump) string { return fmt.Sprintf("%+v\n%+v", x, d) }

// alike tells whether all there is is the same in two dumps.
func alike(a, b api.Dump) bool {
	lists := func(a, b api.List) bool { return a.All == b.All && slices.Equal(a.L, b.L) }
	held := func(a, b api.Held) bool {
		x, y := a.Slot, b.Slot
		return a.Pid == b.Pid && a.Fd == b.Fd && x.File == y.File && x.Rights == y.Rights && x.Fcntls == y.Fcntls && lists(x.Ioctls, y.Ioctls)
	}
	inode := func(a, b api.Inode) bool {
		return a.Ino == b.Ino && a.Kind == b.Kind && a.Links == b.Links && a.Holds == b.Holds && a.Parent == b.Parent && a.Text == b.Text && a.Blocks == b.Blocks && slices.Equal(a.Names, b.Names) && slices.Equal(a.Inos, b.Inos)
	}
	return a.Next == b.Next && slices.Equal(a.Procs, b.Procs) && slices.Equal(a.Files, b.Files) && slices.Equal(a.Pipes, b.Pipes) &&
		slices.EqualFunc(a.Held, b.Held, held) && slices.EqualFunc(a.Inodes, b.Inodes, inode) && fmt.Sprint(a.Socks, a.Parks) == fmt.Sprint(b.Socks, b.Parks)
}
