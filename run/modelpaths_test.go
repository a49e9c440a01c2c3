package run

import (
	"maps"
	"slices"
	"strings"

	"purlieu/api"
)

// base is from where a path is gone, and how what is opened there may be used.
type base struct {
	dir     int
	beneath bool
	like    api.Slot
}

// cwd answers the base of a call without a directory's number.
func (c *caller) cwd() base { return base{c.procs[c.pid].Cwd, false, full(0)} }

// base answers the base of a directory's number.
func (c *caller) base(n int, need api.Rights) base {
	if n == api.AtCwd {
		return c.cwd()
	}
	s, f := c.look(n, need)
	unless(f.Kind == api.KDir, api.ENOTDIR)
	if c.procs[c.pid].Cap || s.Rights != api.CapAll {
		return base{f.Obj, true, s}
	}
	return base{f.Obj, false, full(0)}
}

// base1 answers the base of the call's first directory: where the process is, if the call has no number of one.
func (c *caller) base1() base {
	if c.what.Shape[0] != 'd' {
		return c.cwd()
	}
	return c.base(c.r.A[0], c.what.Need[0])
}

// base2 answers the base of the call's second directory.
func (c *caller) base2() base { return c.base(c.r.A[1], c.what.Need[1]) }

// parts cuts a path: its parts, whether it is absolute, whether it ends with a /.
func parts(s string) ([]string, bool, bool) {
	unless(s != "", api.ENOENT)
	unless(len(s) <= api.MaxPath, api.ENAMETOOLONG)
	unless(!strings.Contains(s, "\x00"), api.EINVAL)
	l := strings.FieldsFunc(s, func(r rune) bool { return r == '/' })
	for _, x := range l {
		unless(len(x) <= api.MaxName, api.ENAMETOOLONG)
	}
	return l, s[0] == '/', s[len(s)-1] == '/'
}

// found is what a path comes to.
type found struct {
	dir   int
	name  string
	ino   int
	slash bool
}

// into stops, if it is no directory to go into.
func (p *plain) into(dir int) node {
	n, there := p.nodes[dir]
	unless(there, api.ENOENT)
	unless(n.kind == api.KDir, api.ENOTDIR)
	unless(dir == root || n.links > 0, api.ENOENT)
	return n
}

// entry answers what a part leads to from a directory, and whether it leads to something.
func (p *plain) entry(dir int, part string) (int, bool) {
	n := p.into(dir)
	switch part {
	case ".":
		return dir, true
	case "..":
		return n.parent, true
	}
	ino, there := n.entries[part]
	return ino, there
}

// walk goes a path.
func (p *plain) walk(b base, s string, follow, parent bool) found {
	left, abs, slash := parts(s)
	unless(!abs || !b.beneath, api.ENOTCAPABLE)
	dir, links := b.dir, 0
	if abs {
		dir = root
	}
	for len(left) > 0 {
		part, last := left[0], len(left) == 1
		p.into(dir)
		unless(part != ".." || !b.beneath, api.ENOTCAPABLE)
		ino, there := p.entry(dir, part)
		if !there {
			unless(last && parent, api.ENOENT)
			return found{dir, part, 0, slash}
		}
		left = left[1:]
		n := p.nodes[ino]
		switch {
		case n.kind == api.KSymlink && (!last || follow || slash):
			links++
			unless(links <= api.MaxSymlink, api.ELOOP)
			more, abs, ends := parts(n.text)
			unless(!abs || !b.beneath, api.ENOTCAPABLE)
			if abs {
				dir = root
			}
			left = slices.Concat(more, left)
			slash = slash || last && ends
		case last:
			unless(!slash || n.kind == api.KDir, api.ENOTDIR)
			if part == "." || part == ".." {
				return found{ino, "", ino, slash}
			}
			return found{dir, part, ino, slash}
		default:
			dir = ino
		}
	}
	return found{dir, "", dir, slash}
}

// hold changes by how many an inode is held; one that is neither linked nor held is gone.
func (p *plain) hold(ino, by int) {
	n := p.nodes[ino]
	n.holds += by
	p.keep(ino, n)
}

// linked changes how many links an inode has.
func (p *plain) linked(ino, by int) {
	n := p.nodes[ino]
	n.links += by
	p.keep(ino, n)
}

// keep puts an inode into the store, if it is linked or held.
func (p *plain) keep(ino int, n node) {
	if n.links == 0 && n.holds == 0 {
		delete(p.nodes, ino)
		return
	}
	p.nodes[ino] = n
}

// put makes an entry lead to an inode; to none, if it is 0.
func (p *plain) put(dir int, name string, ino int) {
	n := p.nodes[dir]
	n.entries = maps.Clone(n.entries)
	if n.entries == nil {
		n.entries = map[string]int{}
	}
	if ino == 0 {
		delete(n.entries, name)
	} else {
		n.entries[name] = ino
	}
	p.nodes[dir] = n
}

// name stops, if there can be no entry of that name.
func name(s string) {
	unless(s != "", api.ENOENT)
	unless(len(s) <= api.MaxName, api.ENAMETOOLONG)
	unless(s != "." && s != ".." && !strings.ContainsAny(s, "/\x00"), api.EINVAL)
}

// create makes an inode with an entry.
func (p *plain) create(dir int, s string, kind int, target string) int {
	n := p.into(dir)
	name(s)
	_, there := n.entries[s]
	unless(!there, api.EEXIST)
	if kind == api.KSymlink {
		unless(target != "", api.ENOENT)
		unless(len(target) <= api.MaxPath, api.ENAMETOOLONG)
		unless(!strings.Contains(target, "\x00"), api.EINVAL)
	}
	unless(len(p.nodes) < p.l.Inodes && len(n.entries) < api.MaxEntries, api.ENOSPC)
	ino := p.number(nextNode)
	x := node{kind: kind, links: 1, text: target}
	if kind == api.KDir {
		x.parent = dir
	}
	p.nodes[ino] = x
	p.put(dir, s, ino)
	return ino
}

// open opens what a path leads to, or a new file.
func (c *caller) open(b base, flags int, s string) api.Res {
	is := func(bits int) bool { return flags&bits != 0 }
	fresh := is(api.OCreat) && is(api.OExcl)
	f := c.walk(b, s, !is(api.ONofollow) && !fresh, is(api.OCreat))
	if f.ino == 0 {
		unless(!f.slash, api.EISDIR)
		c.fits(1, 1)
		ino := c.create(f.dir, f.name, api.KFile, "")
		return api.Res{Val: c.opens(api.KFile, ino, flags, b.like)}
	}
	kind := c.nodes[f.ino].kind
	unless(!fresh, api.EEXIST)
	unless(kind != api.KSymlink, api.ELOOP)
	unless(kind != api.KBound, api.EOPNOTSUPP)
	unless(kind != api.KDir || !is(api.OWrite|api.OBoth|api.OCreat), api.EISDIR)
	unless(kind == api.KDir || !is(api.ODirectory), api.ENOTDIR)
	c.fits(1, 1)
	if kind == api.KFile && is(api.OTrunc) {
		c.truncate(f.ino, 0)
	}
	return api.Res{Val: c.opens(kind, f.ino, flags, b.like)}
}

// fresh goes a path to where there is to be a new name.
func (c *caller) fresh(b base, s string) found {
	f := c.walk(b, s, false, true)
	unless(f.ino == 0, api.EEXIST)
	return f
}

// mkdir makes a directory.
func (c *caller) mkdir(b base, s string) api.Res {
	f := c.fresh(b, s)
	c.create(f.dir, f.name, api.KDir, "")
	return api.Res{}
}

// symlink makes a symlink.
func (c *caller) symlink(b base, target, s string) api.Res {
	f := c.fresh(b, s)
	unless(!f.slash, api.ENOENT)
	c.create(f.dir, f.name, api.KSymlink, target)
	return api.Res{}
}

// link gives an inode one more name.
func (c *caller) link(b, b2 base, follow bool, s, t string) api.Res {
	from := c.walk(b, s, follow, false)
	unless(c.nodes[from.ino].kind != api.KDir, api.EPERM)
	to := c.fresh(b2, t)
	unless(!to.slash, api.ENOENT)
	n := c.into(to.dir)
	name(to.name)
	unless(c.nodes[from.ino].links < api.MaxLinks, api.EMLINK)
	unless(len(n.entries) < api.MaxEntries, api.ENOSPC)
	c.put(to.dir, to.name, from.ino)
	c.linked(from.ino, 1)
	return api.Res{}
}

// unlink takes a name away, of a directory or of something else.
func (c *caller) unlink(b base, dir bool, s string) api.Res {
	f := c.walk(b, s, false, false)
	unless(f.name != "", api.EINVAL)
	c.into(f.dir)
	n := c.nodes[f.ino]
	if dir {
		unless(n.kind == api.KDir, api.ENOTDIR)
		unless(len(n.entries) == 0, api.ENOTEMPTY)
	} else {
		unless(n.kind != api.KDir, api.EPERM)
	}
	c.put(f.dir, f.name, 0)
	c.linked(f.ino, -1)
	return api.Res{}
}

// below tells whether a directory is another one, or lies below it.
func (p *plain) below(dir, top int) bool {
	for dir != top && dir != root {
		dir = p.nodes[dir].parent
	}
	return dir == top
}

// rename gives something another name.
func (c *caller) rename(b, b2 base, s, t string) api.Res {
	from := c.walk(b, s, false, false)
	unless(from.name != "", api.EINVAL)
	to := c.walk(b2, t, false, true)
	unless(to.name != "", api.EINVAL)
	n := c.nodes[from.ino]
	moved := n.kind == api.KDir
	unless(!to.slash || moved, api.ENOTDIR)
	d2 := c.into(to.dir)
	if from.ino == to.ino {
		return api.Res{}
	}
	unless(!moved || !c.below(to.dir, from.ino), api.EINVAL)
	if to.ino != 0 {
		x := c.nodes[to.ino]
		unless(!moved || x.kind == api.KDir, api.ENOTDIR)
		unless(!moved || len(x.entries) == 0, api.ENOTEMPTY)
		unless(moved || x.kind != api.KDir, api.EISDIR) // with entries, too
	} else {
		unless(from.dir == to.dir || len(d2.entries) < api.MaxEntries, api.ENOSPC)
	}
	c.put(from.dir, from.name, 0)
	c.put(to.dir, to.name, from.ino)
	if moved {
		n.parent = to.dir
		c.nodes[from.ino] = n
	}
	if to.ino != 0 {
		c.linked(to.ino, -1)
	}
	return api.Res{}
}

// moves makes the process be in another directory.
func (c *caller) moves(dir int) api.Res {
	c.into(dir)
	me := c.procs[c.pid]
	was := me.Cwd
	me.Cwd = dir
	c.procs[c.pid] = me
	c.hold(dir, 1)
	c.hold(was, -1)
	return api.Res{}
}

// chdir goes into the directory that a path leads to.
func (c *caller) chdir(s string) api.Res {
	f := c.walk(c.cwd(), s, true, false)
	unless(c.nodes[f.ino].kind == api.KDir, api.ENOTDIR)
	return c.moves(f.ino)
}

// fchdir goes into the directory that a descriptor is open of.
func (c *caller) fchdir(fd int) api.Res {
	_, f := c.look(fd, c.what.Need[0])
	unless(f.Kind == api.KDir, api.ENOTDIR)
	return c.moves(f.Obj)
}

// readlink tells a symlink's target.
func (c *caller) readlink(b base, s string) api.Res {
	f := c.walk(b, s, false, false)
	n := c.nodes[f.ino]
	unless(n.kind == api.KSymlink, api.EINVAL)
	return api.Res{Val: len(n.text), S: n.text}
}

// stat tells of what a path leads to.
func (c *caller) stat(b base, follow bool, s string) api.Res {
	f := c.walk(b, s, follow, false)
	return api.Res{L: c.nodes[f.ino].stat()}
}

// stat answers an inode's kind, size, links and blocks.
func (n node) stat() []int {
	size := len(n.text)
	if n.kind == api.KDir {
		size = len(n.entries)
	}
	return []int{n.kind, size, n.links, len(n.blocks)}
}
