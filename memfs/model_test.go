package memfs

import (
	"fmt"
	"slices"
	"strings"
	"testing"

	"purlieu/api"
)

// system is what the file system and its model both can.
type system interface {
	Lookup(dir int, name string) (int, api.Errno)
	Create(dir int, name string, kind int, target string) (int, api.Errno)
	Link(dir int, name string, ino int) api.Errno
	Unlink(dir int, name string) api.Errno
	Rmdir(dir int, name string) api.Errno
	Rename(d1 int, n1 string, d2 int, n2 string) api.Errno
	List(dir, from, n int) ([]string, api.Errno)
	Within(dir, ino int) bool
	Hold(ino int) api.Errno
	Release(ino int) api.Errno
	Stat(ino int) (api.Stat, api.Errno)
	Target(ino int) (string, bool)
	Read(ino, off, n int) ([]byte, api.Errno)
	Write(ino, off int, b []byte) api.Errno
	Truncate(ino, n int) api.Errno
	Room() (int, int)
	Next() int
	Dump() []api.Inode
}

// thing is an inode by the chapter's words. Its links are not counted ahead: they are the entries that lead to it.
type thing struct {
	ino, kind, holds, lies int
	target                 string
	bytes                  []byte
	blocks                 []int
}

// line is one of all entries of all directories.
type line struct {
	dir  int
	name string
	ino  int
}

// plain is a file system by the chapter's words: a list of things, and a list of entries.
type plain struct {
	inodes, blocks, made int
	things               []*thing
	lines                []line
}

// newPlain is P7.1.
func newPlain(inodes, blocks int) *plain {
	return &plain{inodes: inodes, blocks: blocks, made: 1, things: []*thing{{ino: 1, kind: api.KDir, holds: 1, lies: 1}}}
}

// at answers the thing of that number, or nil.
func (p *plain) at(ino int) *thing {
	for _, x := range p.things {
		if x.ino == ino {
			return x
		}
	}
	return nil
}

// links answers how many entries lead to an inode.
func (p *plain) links(ino int) int {
	n := 0
	for _, l := range p.lines {
		if l.ino == ino {
			n++
		}
	}
	return n
}

// of answers a directory's entries, in the order of their names.
func (p *plain) of(dir int) []line {
	var own []line
	for _, l := range p.lines {
		if l.dir == dir {
			own = append(own, l)
		}
	}
	slices.SortFunc(own, func(a, b line) int { return strings.Compare(a.name, b.name) })
	return own
}

// find answers the inode of an entry, or 0.
func (p *plain) find(dir int, name string) int {
	for _, l := range p.of(dir) {
		if l.name == name {
			return l.ino
		}
	}
	return 0
}

// cut takes an entry away.
func (p *plain) cut(dir int, name string) {
	p.lines = slices.DeleteFunc(p.lines, func(l line) bool { return l.dir == dir && l.name == name })
}

// sweep takes away what has neither links nor holds.
func (p *plain) sweep() {
	p.things = slices.DeleteFunc(p.things, func(x *thing) bool { return x.holds == 0 && p.links(x.ino) == 0 })
}

// isDir tells whether there is a directory of that number.
func (p *plain) isDir(ino int) bool { x := p.at(ino); return x != nil && x.kind == api.KDir }

// dirError is what P7.1 says of a directory to go into.
func (p *plain) dirError(dir int) api.Errno {
	if p.at(dir) == nil {
		return api.ENOENT
	}
	if !p.isDir(dir) {
		return api.ENOTDIR
	}
	if dir != 1 && p.links(dir) == 0 {
		return api.ENOENT
	}
	return api.OK
}

// nameError is P3.3.
func nameError(name string) api.Errno {
	if name == "" {
		return api.ENOENT
	}
	if len(name) > 32 {
		return api.ENAMETOOLONG
	}
	if name == "." || name == ".." || strings.Contains(name, "/") || strings.Contains(name, "\x00") {
		return api.EINVAL
	}
	return api.OK
}

// kindError is P6.2, but for the room.
func kindError(kind int, target string) api.Errno {
	if kind < 1 || kind > 4 || kind != api.KSymlink && target != "" {
		return api.EINVAL
	}
	if kind != api.KSymlink {
		return api.OK
	}
	if target == "" {
		return api.ENOENT
	}
	if len(target) > 256 {
		return api.ENAMETOOLONG
	}
	if strings.Contains(target, "\x00") {
		return api.EINVAL
	}
	return api.OK
}

// firstOf answers the first of them that is an error.
func firstOf(list ...api.Errno) api.Errno {
	for _, e := range list {
		if e != api.OK {
			return e
		}
	}
	return api.OK
}

// holdsThat answers e, if that is so.
func holdsThat(is bool, e api.Errno) api.Errno {
	if is {
		return e
	}
	return api.OK
}

// Lookup is P7.2.
func (p *plain) Lookup(dir int, name string) (int, api.Errno) {
	if e := p.dirError(dir); e != api.OK {
		return 0, e
	}
	if name == "." {
		return dir, api.OK
	}
	if name == ".." {
		return p.at(dir).lies, api.OK
	}
	ino := p.find(dir, name)
	return ino, firstOf(nameError(name), holdsThat(ino == 0, api.ENOENT))
}

// List is P7.2 with P5.3.
func (p *plain) List(dir, from, n int) ([]string, api.Errno) {
	if e := p.dirError(dir); e != api.OK {
		return nil, e
	}
	var names []string
	for i, l := range p.of(dir) {
		if from >= 0 && i >= from && i-from < n {
			names = append(names, l.name)
		}
	}
	return names, api.OK
}

// Within is P7.2.
func (p *plain) Within(dir, ino int) bool {
	if !p.isDir(dir) || !p.isDir(ino) {
		return false
	}
	if dir == ino {
		return true
	}
	up := p.at(ino).lies
	return up != ino && p.Within(dir, up)
}

// Create is P7.3.
func (p *plain) Create(dir int, name string, kind int, target string) (int, api.Errno) {
	e := firstOf(
		p.dirError(dir),
		nameError(name),
		holdsThat(p.find(dir, name) != 0, api.EEXIST),
		kindError(kind, target),
		holdsThat(len(p.of(dir)) == 64, api.ENOSPC),
		holdsThat(len(p.things) == p.inodes, api.ENOSPC))
	if e != api.OK {
		return 0, e
	}
	p.made++
	x := &thing{ino: p.made, kind: kind, target: target}
	if kind == api.KDir {
		x.lies = dir
	}
	p.things = append(p.things, x)
	p.lines = append(p.lines, line{dir, name, x.ino})
	return x.ino, api.OK
}

// Link is P7.4.
func (p *plain) Link(dir int, name string, ino int) api.Errno {
	e := firstOf(
		p.dirError(dir),
		nameError(name),
		holdsThat(p.at(ino) == nil, api.ENOENT),
		holdsThat(p.isDir(ino), api.EPERM),
		holdsThat(p.find(dir, name) != 0, api.EEXIST),
		holdsThat(p.links(ino) == 32, api.EMLINK),
		holdsThat(len(p.of(dir)) == 64, api.ENOSPC))
	if e == api.OK {
		p.lines = append(p.lines, line{dir, name, ino})
	}
	return e
}

// Unlink is P7.4.
func (p *plain) Unlink(dir int, name string) api.Errno {
	ino := p.find(dir, name)
	e := firstOf(
		p.dirError(dir),
		nameError(name),
		holdsThat(ino == 0, api.ENOENT),
		holdsThat(p.isDir(ino), api.EPERM))
	if e == api.OK {
		p.cut(dir, name)
		p.sweep()
	}
	return e
}

// Rmdir is P7.4.
func (p *plain) Rmdir(dir int, name string) api.Errno {
	ino := p.find(dir, name)
	e := firstOf(
		p.dirError(dir),
		nameError(name),
		holdsThat(ino == 0, api.ENOENT),
		holdsThat(!p.isDir(ino), api.ENOTDIR),
		holdsThat(len(p.of(ino)) > 0, api.ENOTEMPTY))
	if e == api.OK {
		p.cut(dir, name)
		p.sweep()
	}
	return e
}

// Rename is P7.5.
func (p *plain) Rename(d1 int, n1 string, d2 int, n2 string) api.Errno {
	x, y := p.find(d1, n1), p.find(d2, n2)
	e := firstOf(
		p.dirError(d1),
		p.dirError(d2),
		nameError(n1),
		nameError(n2),
		holdsThat(x == 0, api.ENOENT))
	if e != api.OK || x == y {
		return e
	}
	e = firstOf(
		holdsThat(p.Within(x, d2), api.EINVAL),
		holdsThat(y != 0 && p.isDir(x) && !p.isDir(y), api.ENOTDIR),
		holdsThat(y != 0 && p.isDir(x) && len(p.of(y)) > 0, api.ENOTEMPTY),
		holdsThat(y != 0 && p.isDir(y) && !p.isDir(x), api.EISDIR),
		holdsThat(y == 0 && d1 != d2 && len(p.of(d2)) == 64, api.ENOSPC))
	if e != api.OK {
		return e
	}
	p.cut(d1, n1)
	p.cut(d2, n2)
	p.lines = append(p.lines, line{d2, n2, x})
	if p.isDir(x) {
		p.at(x).lies = d2
	}
	p.sweep()
	return api.OK
}

// Hold is P6.3.
func (p *plain) Hold(ino int) api.Errno {
	x := p.at(ino)
	if x == nil {
		return api.ENOENT
	}
	x.holds++
	return api.OK
}

// Release is P6.3, with what P7.1 says of the root.
func (p *plain) Release(ino int) api.Errno {
	x := p.at(ino)
	if x == nil {
		return api.ENOENT
	}
	if x.holds == 0 || ino == 1 && x.holds == 1 {
		return api.EINVAL
	}
	x.holds--
	p.sweep()
	return api.OK
}

// Stat is P6.4.
func (p *plain) Stat(ino int) (api.Stat, api.Errno) {
	x := p.at(ino)
	if x == nil {
		return api.Stat{}, api.ENOENT
	}
	size := len(x.bytes) + len(x.target) + len(p.of(ino))
	return api.Stat{Kind: x.kind, Size: size, Links: p.links(ino), Holds: x.holds, Blocks: len(x.blocks)}, api.OK
}

// Target is P6.4.
func (p *plain) Target(ino int) (string, bool) {
	x := p.at(ino)
	if x == nil || x.kind != api.KSymlink {
		return "", false
	}
	return x.target, true
}

// fileError is what P6.5 says of what is no file.
func (p *plain) fileError(ino int) api.Errno {
	x := p.at(ino)
	return firstOf(holdsThat(x == nil, api.ENOENT), holdsThat(x != nil && x.kind != api.KFile, api.EINVAL))
}

// Read is P6.5.
func (p *plain) Read(ino, off, n int) ([]byte, api.Errno) {
	if e := p.fileError(ino); e != api.OK {
		return nil, e
	}
	var got []byte
	for i, b := range p.at(ino).bytes {
		if off >= 0 && i >= off && i-off < n {
			got = append(got, b)
		}
	}
	return got, api.OK
}

// Write is P6.5 with P4.3.
func (p *plain) Write(ino, off int, b []byte) api.Errno {
	e := firstOf(p.fileError(ino), holdsThat(off < 0, api.EINVAL), holdsThat(off > 65536-len(b), api.EFBIG))
	if e != api.OK {
		return e
	}
	x := p.at(ino)
	blocks := slices.Clone(x.blocks)
	for i := range b {
		if k := (off + i) / 64; !slices.Contains(blocks, k) {
			blocks = append(blocks, k)
		}
	}
	if _, room := p.Room(); len(blocks)-len(x.blocks) > room {
		return api.ENOSPC
	}
	x.blocks = blocks
	for i := range b {
		for len(x.bytes) <= off+i {
			x.bytes = append(x.bytes, 0)
		}
		x.bytes[off+i] = b[i]
	}
	return api.OK
}

// Truncate is P6.5 with P4.4.
func (p *plain) Truncate(ino, n int) api.Errno {
	e := firstOf(p.fileError(ino), holdsThat(n < 0, api.EINVAL), holdsThat(n > 65536, api.EFBIG))
	if e != api.OK {
		return e
	}
	x := p.at(ino)
	for len(x.bytes) < n {
		x.bytes = append(x.bytes, 0)
	}
	x.bytes = x.bytes[:n]
	x.blocks = slices.DeleteFunc(x.blocks, func(k int) bool { return k*64 >= n })
	return api.OK
}

// Room is P6.6.
func (p *plain) Room() (int, int) {
	blocks := p.blocks
	for _, x := range p.things {
		blocks -= len(x.blocks)
	}
	return p.inodes - len(p.things), blocks
}

// Next is P6.1.
func (p *plain) Next() int { return p.made + 1 }

// Dump is P7.6.
func (p *plain) Dump() []api.Inode {
	var all []api.Inode
	for _, x := range p.things {
		i := api.Inode{Ino: x.ino, Kind: x.kind, Links: p.links(x.ino), Holds: x.holds, Parent: x.lies, Text: x.target + string(x.bytes), Blocks: len(x.blocks)}
		for _, l := range p.of(x.ino) {
			i.Names = append(i.Names, l.name)
			i.Inos = append(i.Inos, l.ino)
		}
		all = append(all, i)
	}
	return all
}

// step is a call, and what is told of it.
type step struct {
	name string
	call func(system) string
}

// creates is a step of Create.
func creates(dir int, name string, kind int, target string) step {
	return step{fmt.Sprintf("Create(%d, %.6q, %d, %.6q)", dir, name, kind, target), func(f system) string {
		ino, e := f.Create(dir, name, kind, target)
		return fmt.Sprint(ino, int(e))
	}}
}

// links is a step of Link.
func links(dir int, name string, ino int) step {
	return step{fmt.Sprintf("Link(%d, %.6q, %d)", dir, name, ino), func(f system) string { return fmt.Sprint(int(f.Link(dir, name, ino))) }}
}

// unlinks is a step of Unlink.
func unlinks(dir int, name string) step {
	return step{fmt.Sprintf("Unlink(%d, %.6q)", dir, name), func(f system) string { return fmt.Sprint(int(f.Unlink(dir, name))) }}
}

// rmdirs is a step of Rmdir.
func rmdirs(dir int, name string) step {
	return step{fmt.Sprintf("Rmdir(%d, %.6q)", dir, name), func(f system) string { return fmt.Sprint(int(f.Rmdir(dir, name))) }}
}

// renames is a step of Rename.
func renames(d1 int, n1 string, d2 int, n2 string) step {
	return step{fmt.Sprintf("Rename(%d, %.6q, %d, %.6q)", d1, n1, d2, n2), func(f system) string { return fmt.Sprint(int(f.Rename(d1, n1, d2, n2))) }}
}

// holds is a step of Hold.
func holds(ino int) step {
	return step{fmt.Sprintf("Hold(%d)", ino), func(f system) string { return fmt.Sprint(int(f.Hold(ino))) }}
}

// releases is a step of Release.
func releases(ino int) step {
	return step{fmt.Sprintf("Release(%d)", ino), func(f system) string { return fmt.Sprint(int(f.Release(ino))) }}
}

// writes is a step of Write.
func writes(ino, off int, b string) step {
	return step{fmt.Sprintf("Write(%d, %d, %d bytes)", ino, off, len(b)), func(f system) string { return fmt.Sprint(int(f.Write(ino, off, []byte(b)))) }}
}

// truncates is a step of Truncate.
func truncates(ino, n int) step {
	return step{fmt.Sprintf("Truncate(%d, %d)", ino, n), func(f system) string { return fmt.Sprint(int(f.Truncate(ino, n))) }}
}

// asks are all the questions about the numbers from 0 to one beyond the last, as one text.
func asks(f system) string {
	out := show(f)
	for a := range f.Next() + 2 {
		dot, e := f.Lookup(a, ".")
		up, _ := f.Lookup(a, "..")
		names, _ := f.List(a, 0, 100)
		st, g := f.Stat(a)
		target, is := f.Target(a)
		b, h := f.Read(a, 0, 300)
		out += fmt.Sprintf("\n%d: %d %d %d %q %v %d %q %v %q %d; in", a, dot, int(e), up, names, st, int(g), target, is, b, int(h))
		for b := range f.Next() + 2 {
			if f.Within(b, a) {
				out += fmt.Sprint(" ", b)
			}
		}
	}
	return out
}

// both is a file system, its model, and what was done with them.
type both struct {
	f    *FS
	p    *plain
	gone string
}

// newBoth answers a new file system with its model.
func newBoth(inodes, blocks int) *both {
	return &both{f: New(inodes, blocks), p: newPlain(inodes, blocks)}
}

// do does a step on both, and holds what is told against each other.
func (x *both) do(t *testing.T, s step) {
	t.Helper()
	x.gone += s.name + "; "
	if got, want := s.call(x.f), s.call(x.p); got != want {
		t.Fatalf("%s: %s, not %s", x.gone, got, want)
	}
}

// alike holds all that both tell by tells against each other, and looks for P7.7 and P7.8.
func (x *both) alike(t *testing.T, tells func(system) string) {
	t.Helper()
	if got, want := tells(x.f), tells(x.p); got != want {
		t.Fatalf("%s:\n%s, not\n%s", x.gone, got, want)
	}
	if wrong := unsound(x.f); wrong != "" {
		t.Fatalf("%s: %s", x.gone, wrong)
	}
}

// unsound answers what in f breaks P7.7 or P7.8, looked for in the dump alone, or none.
func unsound(f *FS) string {
	all := map[int]api.Inode{}
	entries := map[int][]int{} // of each inode: the directories with an entry of it
	for _, x := range f.Dump() {
		all[x.Ino] = x
		for _, ino := range x.Inos {
			entries[ino] = append(entries[ino], x.Ino)
		}
	}
	for ino, x := range all {
		in := entries[ino]
		if len(in) != x.Links {
			return fmt.Sprintf("%d has %d links, but %d entries", ino, x.Links, len(in))
		}
		if x.Kind != api.KDir || ino == 1 {
			continue
		}
		if len(in) > 1 || len(in) == 1 && in[0] != x.Parent {
			return fmt.Sprintf("the directory %d lies in %d, but has entries in %v", ino, x.Parent, in)
		}
		at, steps := ino, 0
		for at != 1 && steps <= len(all) {
			at, steps = all[at].Parent, steps+1
		}
		if x.Links > 0 && at != 1 {
			return fmt.Sprintf("from %d the root is not come to", ino)
		}
	}
	for ino := range entries {
		if _, there := all[ino]; !there {
			return fmt.Sprintf("an entry leads to %d, which is not there", ino)
		}
	}
	return ""
}

// P7.1 to P7.9: all rows of three steps, behind a few that lay something to work on, come to what the words say.
func TestAllShortRows(t *testing.T) {
	first := []step{creates(1, "a", api.KDir, ""), creates(2, "b", api.KDir, ""), creates(1, "f", api.KFile, ""), writes(4, 60, "abcdefgh")}
	steps := []step{
		creates(3, "f", api.KFile, ""), creates(1, "c", api.KDir, ""), links(2, "g", 4), unlinks(1, "f"), unlinks(2, "g"),
		rmdirs(1, "a"), rmdirs(2, "b"), rmdirs(1, "b"), holds(2), holds(3), holds(4), releases(3), releases(4),
		renames(2, "b", 1, "b"), renames(1, "b", 2, "b"), renames(1, "a", 1, "b"), renames(1, "a", 3, "x"), renames(1, "f", 2, "g"), renames(2, "g", 1, "f"), renames(1, "c", 2, "b"),
	}
	for _, a := range steps {
		for _, b := range steps {
			for _, c := range steps {
				x := newBoth(6, 2)
				for _, s := range append(first[:len(first):len(first)], a, b, c) {
					x.do(t, s)
				}
				x.alike(t, asks)
			}
		}
	}
}

// dice answers numbers below n that hang on the seed alone.
func dice(seed uint64) func(n int) int {
	return func(n int) int {
		seed = seed*6364136223846793005 + 1442695040888963407
		return int(seed>>33) % n
	}
}

// P7.1 to P7.9: long rows of many calls, wrong ones among them, come to what the words say.
func TestLongRows(t *testing.T) {
	for seed := range uint64(24) {
		next := dice(seed*977 + 1)
		x := newBoth(2+next(14), next(9))
		for range 300 {
			x.do(t, someStep(next, x.p))
			x.alike(t, show)
		}
		x.alike(t, asks)
	}
}

// P7.3 to P7.5: rows that fill directories up to MaxEntries, and inodes up to MaxLinks, come to what the words say.
func TestFullRows(t *testing.T) {
	for seed := range uint64(4) {
		next := dice(seed*31 + 7)
		name := func() string { return fmt.Sprint("n", next(80)) }
		dir := func() int { return 1 + next(3) }
		x := newBoth(200, 5)
		for i, kind := range []int{api.KDir, api.KDir, api.KFile, api.KFile, api.KBound, api.KFile, api.KFile} {
			x.do(t, creates(1, fmt.Sprint("m", i), kind, ""))
		}
		most, linked := 0, 0
		for i := range 2500 {
			switch next(8) {
			case 0, 1:
				x.do(t, renames(dir(), name(), dir(), name()))
			case 2:
				x.do(t, unlinks(dir(), name()))
			case 3:
				x.do(t, creates(dir(), name(), next(5), ""))
			default:
				x.do(t, links(dir(), name(), 4+next(5)))
			}
			for ino := range 9 {
				if st, _ := x.f.Stat(ino); st.Kind == api.KDir {
					most = max(most, st.Size)
				} else {
					linked = max(linked, st.Links)
				}
			}
			if i%20 == 0 {
				x.alike(t, show)
			}
		}
		x.alike(t, asks)
		if most != api.MaxEntries || linked != api.MaxLinks {
			t.Errorf("row %d: at most %d entries, %d links", seed, most, linked)
		}
	}
}

// someName answers a name that is likely to be there, or, seldom, one that can't be.
func someName(next func(int) int) string {
	if next(25) == 0 {
		return []string{"", ".", "..", "a/b", "a\x00", strings.Repeat("n", 32), strings.Repeat("n", 33)}[next(7)]
	}
	return string(rune('a' + next(4)))
}

// someInode answers the number of one that is there, or, seldom, of any.
func someInode(next func(int) int, p *plain) int {
	if next(12) == 0 {
		return next(p.made+3) - 1
	}
	return p.things[next(len(p.things))].ino
}

// someDir answers the number of a directory that is there, or, seldom, of any.
func someDir(next func(int) int, p *plain) int {
	for range 6 {
		if ino := someInode(next, p); p.isDir(ino) {
			return ino
		}
	}
	return someInode(next, p)
}

// someEntry answers a directory and the name of an entry in it, or, seldom, another one.
func someEntry(next func(int) int, p *plain) (int, string) {
	if len(p.lines) == 0 || next(4) == 0 {
		return someDir(next, p), someName(next)
	}
	l := p.lines[next(len(p.lines))]
	return l.dir, l.name
}

// someStep answers a step on what is likely to be there.
func someStep(next func(int) int, p *plain) step {
	dir, name := someDir(next, p), someName(next)
	at, has := someEntry(next, p)
	ino := someInode(next, p)
	switch next(14) {
	case 0, 1:
		return creates(dir, name, api.KFile+next(2), "")
	case 2:
		return creates(dir, name, api.KSymlink+next(2), []string{"", "t", "a/b"}[next(3)])
	case 3:
		return creates(dir, name, next(9)-1, []string{"", "t", "\x00", strings.Repeat("x", 255+next(3))}[next(4)])
	case 4:
		return links(dir, name, ino)
	case 5:
		return unlinks(at, has)
	case 6:
		return rmdirs(at, has)
	case 7, 8:
		return renames(at, has, dir, name)
	case 9:
		to, is := someEntry(next, p)
		return renames(at, has, to, is)
	case 10:
		return holds(ino)
	case 11:
		return releases(ino)
	case 12:
		return truncates(ino, []int{next(400) - 20, 0, 64, 65537}[next(4)])
	}
	return writes(ino, next(400)-10, strings.Repeat("w", next(130)))
}
