package run

import (
	"slices"
	"strings"

	"purlieu/api"
)

// way answers the way of an open file: 0 for reading, 1 for writing, 2 for both.
func way(f api.File) int { return f.Flags & 3 }

// waits ends a call that would wait.
func waits(f api.File) {
	unless(f.Flags&api.ONonblock == 0, api.EAGAIN)
	stop(api.EWAIT)
}

// cut answers up to n of the bytes of a text from there on.
func cut(s string, off, n int) string {
	if off >= len(s) {
		return ""
	}
	return s[off:][:min(n, len(s)-off)]
}

// bytes answers what comes of a call that reads them.
func bytes(s string) api.Res { return api.Res{Val: len(s), S: s} }

// stands makes an open file stand there.
func (c *caller) stands(f api.File, off int) {
	f.Off = off
	c.files[f.ID] = f
}

// read reads bytes.
func (c *caller) read(fd, n int) api.Res {
	_, f := c.look(fd, c.what.Need[0])
	unless(f.Kind != api.KDir, api.EISDIR)
	unless(f.Kind != api.KProc, api.EOPNOTSUPP)
	unless(way(f) != api.OWrite, api.EBADF)
	switch f.Kind {
	case api.KFile:
		s := cut(c.nodes[f.Obj].text, f.Off, n)
		c.stands(f, f.Off+len(s))
		return bytes(s)
	case api.KPipe:
		x := c.pipes[f.Obj]
		if n == 0 || x.B == "" && !x.Writes {
			return api.Res{}
		}
		if x.B == "" {
			waits(f)
		}
		s := cut(x.B, 0, n)
		x.B = x.B[len(s):]
		c.pipes[f.Obj] = x
		return bytes(s)
	}
	s, _, lost := c.receives(f, n, 0)
	c.drops(lost)
	return bytes(s)
}

// pread reads bytes of a file from there on.
func (c *caller) pread(fd, n, off int) api.Res {
	_, f := c.look(fd, c.what.Need[0])
	unless(f.Kind != api.KDir, api.EISDIR)
	unless(f.Kind == api.KFile, api.ESPIPE)
	unless(way(f) != api.OWrite, api.EBADF)
	return bytes(cut(c.nodes[f.Obj].text, off, n))
}

// room answers how many blocks there is still room for.
func (p *plain) room() int {
	n := p.l.Blocks
	for _, x := range p.nodes {
		n -= len(x.blocks)
	}
	return n
}

// puts writes bytes to a file: it has all blocks then in which they lie.
func (p *plain) puts(ino, off int, s string) {
	unless(off <= api.MaxFile && off+len(s) <= api.MaxFile, api.EFBIG)
	if s == "" {
		return
	}
	n := p.nodes[ino]
	l := slices.Clone(n.blocks)
	for b := off / 64; b <= (off+len(s)-1)/64; b++ {
		l = append(l, b)
	}
	slices.Sort(l)
	l = slices.Compact(l)
	unless(len(l)-len(n.blocks) <= p.room(), api.ENOSPC)
	n.blocks = l
	text := []byte(n.text)
	for len(text) < off+len(s) {
		text = append(text, 0)
	}
	copy(text[off:], s)
	n.text = string(text)
	p.nodes[ino] = n
}

// truncate makes a file have so many bytes.
func (p *plain) truncate(ino, size int) {
	unless(size <= api.MaxFile, api.EFBIG)
	n := p.nodes[ino]
	n.text = n.text[:min(size, len(n.text))]
	n.text += strings.Repeat("\x00", size-len(n.text))
	l := []int{}
	for _, b := range n.blocks {
		if b*64 < size {
			l = append(l, b)
		}
	}
	n.blocks = l
	p.nodes[ino] = n
}

// write writes bytes.
func (c *caller) write(fd int, s string) api.Res {
	_, f := c.look(fd, c.what.Need[0])
	unless(f.Kind != api.KProc, api.EOPNOTSUPP)
	unless(way(f) != 0, api.EBADF)
	switch f.Kind {
	case api.KFile:
		off := f.Off
		if f.Flags&api.OAppend != 0 {
			off = len(c.nodes[f.Obj].text)
		}
		c.puts(f.Obj, off, s)
		c.stands(f, off+len(s))
		return api.Res{Val: len(s)}
	case api.KPipe:
		x := c.pipes[f.Obj]
		unless(x.Reads, api.EPIPE)
		if s != "" && len(x.B) == c.l.Pipe {
			waits(f)
		}
		s = cut(s, 0, c.l.Pipe-len(x.B))
		x.B += s
		c.pipes[f.Obj] = x
		return api.Res{Val: len(s)}
	}
	return c.sends(f, s, nil)
}

// pwrite writes bytes to a file from there on.
func (c *caller) pwrite(fd, off int, s string) api.Res {
	_, f := c.look(fd, c.what.Need[0])
	unless(f.Kind == api.KFile, api.ESPIPE)
	unless(way(f) != 0, api.EBADF)
	c.puts(f.Obj, off, s)
	return api.Res{Val: len(s)}
}

// flagged sets which of these flags an open file has.
func (c *caller) flagged(f api.File, of, flags int) {
	f.Flags = f.Flags&^of | flags&of
	c.files[f.ID] = f
}

// fcntl does a command of fcntl.
func (c *caller) fcntl(fd, cmd, arg int) api.Res {
	s, f := c.look(fd, 0)
	if cmd == 0 {
		return api.Res{Val: c.dup(fd, arg)}
	}
	unless(3 <= cmd && cmd <= 6, api.EINVAL)
	unless(s.Rights&api.CapFcntl != 0 && s.Fcntls>>cmd&1 == 1, api.ENOTCAPABLE)
	switch cmd {
	case 3:
		return api.Res{Val: f.Flags}
	case 4:
		unless(arg&^(api.ONonblock|api.OAppend) == 0, api.EINVAL)
		c.flagged(f, api.ONonblock|api.OAppend, arg)
	case 6:
		unless(arg >= 0, api.EINVAL)
	}
	return api.Res{}
}

// waiting answers how many bytes wait in a socket.
func (p *plain) waiting(id int) int {
	n := 0
	for _, x := range p.socks[id].Parts {
		n += len(x.B)
	}
	return n
}

// ioctl does a command of ioctl.
func (c *caller) ioctl(fd, cmd, arg int) api.Res {
	s, f := c.look(fd, c.what.Need[0])
	unless(has(s.Ioctls, cmd), api.ENOTCAPABLE)
	switch cmd {
	case 1:
		switch f.Kind {
		case api.KFile:
			return api.Res{Val: max(0, len(c.nodes[f.Obj].text)-f.Off)}
		case api.KPipe:
			return api.Res{Val: len(c.pipes[f.Obj].B)}
		case api.KSock:
			return api.Res{Val: c.waiting(f.Obj)}
		}
	case 2:
		unless(arg == 0 || arg == 1, api.EINVAL)
		c.flagged(f, api.ONonblock, arg*api.ONonblock)
	default:
		stop(api.ENOTTY)
	}
	return api.Res{}
}

// lseek makes an open file stand somewhere else.
func (c *caller) lseek(fd, off, how int) api.Res {
	need := api.CapSeek
	if off == 0 && how == 1 {
		need = api.CapTell
	}
	_, f := c.look(fd, need)
	unless(f.Kind == api.KFile || f.Kind == api.KDir, api.ESPIPE)
	from := []int{0, f.Off, c.nodes[f.Obj].stat()[1]}[how]
	unless(-from <= off && off <= api.MaxFile-from, api.EINVAL)
	c.stands(f, from+off)
	return api.Res{Val: from + off}
}

// ftruncate makes a file have so many bytes.
func (c *caller) ftruncate(fd, n int) api.Res {
	_, f := c.look(fd, c.what.Need[0])
	unless(f.Kind == api.KFile && way(f) != 0, api.EINVAL)
	c.truncate(f.Obj, n)
	return api.Res{}
}

// fsync does nothing, of what it may be asked for.
func (c *caller) fsync(fd int) api.Res {
	_, f := c.look(fd, c.what.Need[0])
	unless(f.Kind == api.KFile || f.Kind == api.KDir, api.EINVAL)
	return api.Res{}
}

// getdents tells the next names of a directory.
func (c *caller) getdents(fd, n int) api.Res {
	_, f := c.look(fd, c.what.Need[0])
	unless(f.Kind == api.KDir, api.ENOTDIR)
	l := c.into(f.Obj).told(f.Obj).Names
	l = l[min(f.Off, len(l)):]
	l = l[:min(n, len(l))]
	c.stands(f, f.Off+len(l))
	return api.Res{Val: len(l), S: strings.Join(l, "/")}
}

// fstat tells of what a descriptor is open of.
func (c *caller) fstat(fd int) api.Res {
	_, f := c.look(fd, c.what.Need[0])
	switch f.Kind {
	case api.KPipe:
		return api.Res{L: []int{api.KPipe, len(c.pipes[f.Obj].B), 0, 0}}
	case api.KSock:
		return api.Res{L: []int{api.KSock, c.waiting(f.Obj), 0, 0}}
	case api.KProc:
		return api.Res{L: []int{api.KProc, 0, 0, 0}}
	}
	return api.Res{L: c.nodes[f.Obj].stat()}
}
