package inodes

import (
	"bytes"
	"fmt"
	"slices"
	"strings"
	"testing"

	"purlieu/api"
)

// thing is an inode as the chapter's words have it: nothing is counted ahead, bytes are all written out.
type thing struct {
	ino, kind, links, holds int
	target                  string
	bytes                   []byte
	blocks                  []int
	names                   []string
}

// plain is a store by the chapter's words: a list.
type plain struct {
	inodes, blocks, made int
	things               []*thing
}

// at answers the thing of that number, or nil.
func (p *plain) at(ino int) *thing {
	for _, x := range p.things {
		if x.ino == ino {
			return x
		}
	}
	return nil
}

// room answers what there was less what is there.
func (p *plain) room() (int, int) {
	blocks := p.blocks
	for _, x := range p.things {
		blocks -= len(x.blocks)
	}
	return p.inodes - len(p.things), blocks
}

// make is P6.2.
func (p *plain) make(kind int, target string) (int, api.Errno) {
	link := kind == api.KSymlink
	if kind < api.KFile || kind > api.KBound || target != "" && !link {
		return 0, api.EINVAL
	}
	if link && target == "" {
		return 0, api.ENOENT
	}
	if link && len(target) > 256 {
		return 0, api.ENAMETOOLONG
	}
	if link && strings.Contains(target, "\x00") {
		return 0, api.EINVAL
	}
	if len(p.things) == p.inodes {
		return 0, api.ENOSPC
	}
	p.made++
	p.things = append(p.things, &thing{ino: p.made, kind: kind, holds: 1, target: target})
	return p.made, api.OK
}

// count is P6.3: one more or less of the links or the holds.
func (p *plain) count(ino int, links bool, by int) api.Errno {
	x := p.at(ino)
	if x == nil {
		return api.ENOENT
	}
	n := &x.holds
	if links {
		n = &x.links
	}
	if links && by > 0 && *n == 32 {
		return api.EMLINK
	}
	if *n+by < 0 {
		return api.EINVAL
	}
	*n += by
	if x.links+x.holds == 0 {
		p.things = slices.DeleteFunc(p.things, func(y *thing) bool { return y == x })
	}
	return api.OK
}

// file answers the file of that number, or an error.
func (p *plain) file(ino int) (*thing, api.Errno) {
	x := p.at(ino)
	if x == nil {
		return nil, api.ENOENT
	}
	if x.kind != api.KFile {
		return nil, api.EINVAL
	}
	return x, api.OK
}

// write is P6.5 with P4.3.
func (p *plain) write(ino, off int, b []byte) api.Errno {
	x, e := p.file(ino)
	if e != api.OK {
		return e
	}
	if off < 0 {
		return api.EINVAL
	}
	if off+len(b) > 65536 {
		return api.EFBIG
	}
	blocks := slices.Clone(x.blocks)
	for i := range b {
		if k := (off + i) / 64; !slices.Contains(blocks, k) {
			blocks = append(blocks, k)
		}
	}
	if _, room := p.room(); len(blocks)-len(x.blocks) > room {
		return api.ENOSPC
	}
	for i := range b {
		for len(x.bytes) <= off+i {
			x.bytes = append(x.bytes, 0)
		}
		x.bytes[off+i] = b[i]
	}
	x.blocks = blocks
	return api.OK
}

// truncate is P6.5 with P4.4.
func (p *plain) truncate(ino, n int) api.Errno {
	x, e := p.file(ino)
	if e != api.OK {
		return e
	}
	if n < 0 {
		return api.EINVAL
	}
	if n > 65536 {
		return api.EFBIG
	}
	for len(x.bytes) < n {
		x.bytes = append(x.bytes, 0)
	}
	x.bytes = x.bytes[:n]
	x.blocks = slices.DeleteFunc(x.blocks, func(k int) bool { return k*64 >= n })
	return api.OK
}

// add gives a directory an entry, if it is one.
func (p *plain) add(ino int, name string) {
	if x := p.at(ino); x != nil && x.kind == api.KDir && !slices.Contains(x.names, name) {
		x.names = append(x.names, name)
	}
}

// show writes what the test's show writes.
func (p *plain) show() string {
	inodes, blocks := p.room()
	out := fmt.Sprintf("next %d, room %d %d", p.made+1, inodes, blocks)
	for _, x := range p.things {
		st := api.Stat{Kind: x.kind, Links: x.links, Holds: x.holds, Blocks: len(x.blocks)}
		var e api.Errno = api.EINVAL
		switch x.kind {
		case api.KFile:
			st.Size, e = len(x.bytes), api.OK
		case api.KDir:
			st.Size = len(x.names)
		case api.KSymlink:
			st.Size = len(x.target)
		}
		out += fmt.Sprintf("; %d: %v %d %q %v %d %d %q has", x.ino, st, api.OK, x.target, x.kind == api.KSymlink, e, len(x.bytes), bytes.TrimRight(x.bytes, "\x00"))
		slices.Sort(x.blocks)
		for _, k := range x.blocks {
			out += fmt.Sprintf(" %d", k)
		}
		out += fmt.Sprint(" ", x.kind != api.KDir)
		slices.Sort(x.names)
		for _, name := range x.names {
			out += fmt.Sprintf(" %s=%d", name, 1)
		}
	}
	return out
}

// both is a store and its model.
type both struct {
	s *Store
	p *plain
}

// step is a call on both, and what each tells.
type step struct {
	name string
	call func(both) (string, string)
}

// errno makes a step of calls that tell an error.
func errno(name string, s func(*Store) api.Errno, p func(*plain) api.Errno) step {
	return step{name, func(x both) (string, string) { return fmt.Sprint(s(x.s)), fmt.Sprint(p(x.p)) }}
}

// makes is a step of Make.
func makes(kind int, target string) step {
	return step{fmt.Sprintf("Make(%d, %.4q)", kind, target), func(x both) (string, string) {
		a, e := x.s.Make(kind, target)
		b, f := x.p.make(kind, target)
		return fmt.Sprint(a, e), fmt.Sprint(b, f)
	}}
}

// counts are the four steps on one number's counts.
func counts(ino int) []step {
	return []step{
		errno(fmt.Sprint("Link ", ino), func(s *Store) api.Errno { return s.Link(ino) }, func(p *plain) api.Errno { return p.count(ino, true, 1) }),
		errno(fmt.Sprint("Unlink ", ino), func(s *Store) api.Errno { return s.Unlink(ino) }, func(p *plain) api.Errno { return p.count(ino, true, -1) }),
		errno(fmt.Sprint("Hold ", ino), func(s *Store) api.Errno { return s.Hold(ino) }, func(p *plain) api.Errno { return p.count(ino, false, 1) }),
		errno(fmt.Sprint("Release ", ino), func(s *Store) api.Errno { return s.Release(ino) }, func(p *plain) api.Errno { return p.count(ino, false, -1) }),
	}
}

// writes is a step of Write.
func writes(ino, off int, b string) step {
	return errno(fmt.Sprintf("Write(%d, %d, %d bytes)", ino, off, len(b)),
		func(s *Store) api.Errno { return s.Write(ino, off, []byte(b)) },
		func(p *plain) api.Errno { return p.write(ino, off, []byte(b)) })
}

// cuts is a step of Truncate.
func cuts(ino, n int) step {
	return errno(fmt.Sprintf("Truncate(%d, %d)", ino, n),
		func(s *Store) api.Errno { return s.Truncate(ino, n) },
		func(p *plain) api.Errno { return p.truncate(ino, n) })
}

// enters is a step that adds an entry to a directory; its error is of dirs, and not held against anything.
func enters(ino int, name string) step {
	return step{fmt.Sprintf("Add to %d", ino), func(x both) (string, string) {
		x.s.Dir(ino).Add(name, 1)
		x.p.add(ino, name)
		return "", ""
	}}
}

// compare goes a row of steps, and holds the store against its model behind each.
func compare(t *testing.T, inodes, blocks int, row []step) {
	t.Helper()
	x := both{New(inodes, blocks), &plain{inodes: inodes, blocks: blocks}}
	gone := ""
	for _, s := range row {
		gone += s.name + "; "
		if got, want := s.call(x); got != want {
			t.Fatalf("%s: %s, not %s", gone, got, want)
		}
		if got, want := show(x.s), x.p.show(); got != want {
			t.Fatalf("%s:\n%s, not\n%s", gone, got, want)
		}
	}
}

// P6.1 to P6.7: all rows of four steps come to what the words say.
func TestAllShortRows(t *testing.T) {
	steps := []step{
		makes(api.KFile, ""), makes(api.KDir, ""), makes(api.KSymlink, "t"),
		writes(1, 60, "abcdefgh"), cuts(1, 62), enters(1, "n"),
	}
	steps = append(append(steps, counts(1)...), counts(2)[3])
	row := make([]step, 4)
	var all func(at int)
	all = func(at int) {
		if at == len(row) {
			compare(t, 2, 2, row)
			return
		}
		for _, s := range steps {
			row[at] = s
			all(at + 1)
		}
	}
	all(0)
}

// P6.1 to P6.7: long rows of many calls, wrong ones among them, come to what the words say.
func TestLongRows(t *testing.T) {
	for seed := range uint64(12) {
		rnd := seed*977 + 1
		next := func(n int) int {
			rnd = rnd*6364136223846793005 + 1442695040888963407
			return int(rnd>>33) % n
		}
		row := make([]step, 600)
		newest := 3
		for i := range row {
			if i%12 == 0 {
				newest++
			}
			row[i] = someStep(next, newest)
		}
		compare(t, 1+next(6), next(9), row)
	}
}

// someStep answers a step on a number that is likely to be there.
func someStep(next func(int) int, newest int) step {
	ino := max(newest-next(8), -1)
	switch next(10) {
	case 0, 1:
		return makes(1+next(4)*next(2), "")
	case 2:
		return makes(next(7), []string{"", "t", "a/b", "\x00", strings.Repeat("x", 255+next(3))}[next(5)])
	case 3, 4:
		return writes(ino, next(400)-10, strings.Repeat("w", next(130)))
	case 5:
		return cuts(ino, []int{next(400) - 20, 0, 64, 65536, 65537}[next(5)])
	case 6:
		return enters(ino, fmt.Sprint("n", next(5)))
	}
	return counts(ino)[next(4)]
}
