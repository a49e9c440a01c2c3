package inodes

import (
	"bytes"
	"fmt"
	"math"
	"slices"
	"strings"
	"testing"

	"purlieu/api"
	"purlieu/dirs"
)

// kinds are all that an inode may be; wrongKinds are some that it may not.
var (
	kinds      = []int{api.KFile, api.KDir, api.KSymlink, api.KBound}
	wrongKinds = []int{0, -1, api.KPipe, api.KSock, api.KProc, 8, 100, math.MinInt, math.MaxInt}
)

// odd are numbers that no inode ever has.
var odd = []int{0, -1, -2, 1 << 40, math.MinInt, math.MaxInt}

// targetOf answers what an inode of that kind may be made with.
func targetOf(kind int) string {
	if kind == api.KSymlink {
		return "a/b"
	}
	return ""
}

// store answers a new store, which must be one.
func store(t *testing.T, inodes, blocks int) *Store {
	t.Helper()
	s := New(inodes, blocks)
	if s == nil {
		t.Fatalf("New(%d, %d): nil", inodes, blocks)
	}
	return s
}

// made makes an inode, which must go well.
func made(t *testing.T, s *Store, kind int) int {
	t.Helper()
	ino, e := s.Make(kind, targetOf(kind))
	if e != api.OK {
		t.Fatalf("Make of kind %d: %d", kind, e)
	}
	return ino
}

// ok says that a call went well.
func ok(t *testing.T, e api.Errno) {
	t.Helper()
	if e != api.OK {
		t.Fatalf("error %d", e)
	}
}

// tells says which error a call tells.
func tells(t *testing.T, what string, e, want api.Errno) {
	t.Helper()
	if e != want {
		t.Errorf("%s: %d, not %d", what, e, want)
	}
}

// show writes all that s tells.
func show(s *Store) string {
	inodes, blocks := s.Room()
	out := fmt.Sprintf("next %d, room %d %d", s.Next(), inodes, blocks)
	for _, ino := range s.All() {
		st, e := s.Stat(ino)
		target, is := s.Target(ino)
		out += fmt.Sprintf("; %d: %v %d %q %v", ino, st, e, target, is)
		b, e := s.Read(ino, 0, api.MaxFile)
		out += fmt.Sprintf(" %d %d %q has", e, len(b), bytes.TrimRight(b, "\x00")) // a long tail of noughts is told by its length
		for block := range api.MaxFile / api.Page {
			if s.Has(ino, block) {
				out += fmt.Sprintf(" %d", block)
			}
		}
		d := s.Dir(ino)
		out += fmt.Sprint(" ", d == nil)
		for _, name := range d.Names() {
			to, _ := d.Find(name)
			out += fmt.Sprintf(" %s=%d", name, to)
		}
	}
	return out
}

// room says how much room s has.
func room(t *testing.T, s *Store, inodes, blocks int) {
	t.Helper()
	if i, b := s.Room(); i != inodes || b != blocks {
		t.Errorf("room %d %d, not %d %d", i, b, inodes, blocks)
	}
}

// has says which inodes there are, and which number comes next.
func has(t *testing.T, s *Store, next int, all ...int) {
	t.Helper()
	if s.Next() != next || !slices.Equal(s.All(), all) {
		t.Errorf("next %d of %v, not %d of %v", s.Next(), s.All(), next, all)
	}
}

// stat says what is known of an inode.
func stat(t *testing.T, s *Store, ino int, want api.Stat) {
	t.Helper()
	if st, e := s.Stat(ino); st != want || e != api.OK {
		t.Errorf("Stat(%d): %v %d, not %v", ino, st, e, want)
	}
}

// reads says which bytes are read.
func reads(t *testing.T, s *Store, ino, off, n int, want string) {
	t.Helper()
	if b, e := s.Read(ino, off, n); string(b) != want || e != api.OK {
		t.Errorf("Read(%d, %d, %d): %q %d, not %q", ino, off, n, b, e, want)
	}
}

// varied answers a store with inodes of all kinds and in all states, among them numbers that are gone: files 1 and 8, directory 2, symlink 3, name 4; 5 is not held, 6 and 7 are gone, 9 has all links.
func varied(t *testing.T) *Store {
	t.Helper()
	s := store(t, 9, 5)
	for _, kind := range []int{api.KFile, api.KDir, api.KSymlink, api.KBound, api.KFile, api.KDir, api.KFile, api.KFile, api.KBound} {
		made(t, s, kind)
	}
	ok(t, s.Write(1, 60, []byte("across")))
	ok(t, s.Dir(2).Add("x", 1))
	ok(t, s.Link(5))
	ok(t, s.Release(5))
	ok(t, s.Write(7, 0, []byte("gone")))
	ok(t, s.Release(6))
	ok(t, s.Release(7))
	ok(t, s.Write(8, 700, []byte("far")))
	ok(t, s.Hold(8))
	for range api.MaxLinks {
		ok(t, s.Link(9))
	}
	return s
}

// P6.1: New asks for 1 to MaxInodes inodes and 0 to MaxBlocks blocks.
func TestNew(t *testing.T) {
	for _, c := range []struct {
		inodes, blocks int
		there          bool
	}{
		{1, 0, true}, {1, 4096, true}, {256, 0, true}, {256, 4096, true}, {2, 1, true}, {255, 4095, true},
		{0, 0, false}, {0, 1, false}, {-1, 10, false}, {257, 0, false}, {257, 4096, false},
		{1, -1, false}, {1, 4097, false}, {256, 4097, false}, {256, -1, false}, {0, -1, false}, {257, 4097, false},
		{math.MinInt, 1, false}, {math.MaxInt, 1, false}, {1, math.MinInt, false}, {1, math.MaxInt, false},
	} {
		s := New(c.inodes, c.blocks)
		if (s != nil) != c.there {
			t.Errorf("New(%d, %d) there: %v", c.inodes, c.blocks, s != nil)
			continue
		}
		if s != nil {
			has(t, s, 1)
			room(t, s, c.inodes, c.blocks)
		}
	}
}

// P6.1: numbers begin with 1, rise by one, and none comes twice, whichever inode is gone.
func TestNumbersDoNotComeTwice(t *testing.T) {
	s := store(t, 2, 0)
	for want := 1; want <= 1000; want++ {
		has(t, s, want)
		if ino := made(t, s, kinds[want%4]); ino != want {
			t.Fatalf("made %d, not %d", ino, want)
		}
		has(t, s, want+1, want)
		ok(t, s.Release(want))
	}
	has(t, s, 1001)
	made(t, s, api.KFile)
	made(t, s, api.KDir)
	ok(t, s.Release(1001))
	has(t, s, 1003, 1002)
	made(t, s, api.KBound)
	has(t, s, 1004, 1002, 1003)
}

// P6.1: Next is no more by what is not made.
func TestNextStaysWithErrors(t *testing.T) {
	s := store(t, 1, 0)
	for _, kind := range wrongKinds {
		s.Make(kind, "")
	}
	s.Make(api.KSymlink, "")
	has(t, s, 1)
	made(t, s, api.KFile)
	has(t, s, 2, 1)
	s.Make(api.KFile, "")
	has(t, s, 2, 1)
}

// P6.1: All rises, however inodes came and went; it is the same each time.
func TestAllRises(t *testing.T) {
	s := store(t, api.MaxInodes, 0)
	for range api.MaxInodes {
		made(t, s, api.KFile)
	}
	var want []int
	for ino := 1; ino <= api.MaxInodes; ino++ {
		if ino%3 == 0 {
			ok(t, s.Release(ino))
		} else {
			want = append(want, ino)
		}
	}
	for i := range 20 {
		want = append(want, api.MaxInodes+1+i)
		made(t, s, api.KDir)
		has(t, s, api.MaxInodes+2+i, want...)
	}
}

// P6.1: what All answers is new memory.
func TestAllIsNew(t *testing.T) {
	s := varied(t)
	was := show(s)
	a, b := s.All(), s.All()
	for i := range a[:cap(a)] {
		a[:cap(a)][i] = -5
	}
	if want := []int{1, 2, 3, 4, 5, 8, 9}; !slices.Equal(b, want) || !slices.Equal(s.All(), want) {
		t.Errorf("%v and %v", b, s.All())
	}
	if show(s) != was {
		t.Error("the store is changed")
	}
}

// P6.1: as many inodes as there is room for are made, not one more; one that goes makes room.
func TestRoomForInodes(t *testing.T) {
	for _, n := range []int{1, 2, 3, api.MaxInodes} {
		s := store(t, n, 7)
		for i := range n {
			room(t, s, n-i, 7)
			made(t, s, kinds[i%4])
		}
		room(t, s, 0, 7)
		was := show(s)
		for _, kind := range kinds {
			if ino, e := s.Make(kind, targetOf(kind)); ino != 0 || e != api.ENOSPC {
				t.Errorf("of %d: Make(%d): %d %d", n, kind, ino, e)
			}
		}
		if show(s) != was {
			t.Errorf("of %d: changed with an error", n)
		}
		ok(t, s.Release(n))
		room(t, s, 1, 7)
		made(t, s, api.KDir)
		room(t, s, 0, 7)
	}
}

// P6.1: two stores know nothing of one another.
func TestTwoStores(t *testing.T) {
	a, b := store(t, 2, 2), store(t, 2, 2)
	made(t, a, api.KFile)
	ok(t, a.Write(1, 0, []byte("a")))
	has(t, b, 1)
	room(t, b, 2, 2)
	made(t, b, api.KDir)
	stat(t, a, 1, api.Stat{Kind: api.KFile, Size: 1, Holds: 1, Blocks: 1})
	stat(t, b, 1, api.Stat{Kind: api.KDir, Holds: 1})
	ok(t, b.Release(1))
	has(t, a, 2, 1)
	has(t, b, 2)
}

// P6.2: each kind is made without bytes, entries and links, with one hold.
func TestMake(t *testing.T) {
	for _, kind := range kinds {
		s := store(t, 3, 3)
		if ino, e := s.Make(kind, targetOf(kind)); ino != 1 || e != api.OK {
			t.Fatalf("Make(%d): %d %d", kind, ino, e)
		}
		stat(t, s, 1, api.Stat{Kind: kind, Size: len(targetOf(kind)), Holds: 1})
		room(t, s, 2, 3)
		has(t, s, 2, 1)
		if d := s.Dir(1); (d != nil) != (kind == api.KDir) || d.Len() != 0 {
			t.Errorf("kind %d: Dir %v", kind, d)
		}
		if b, _ := s.Read(1, 0, 10); len(b) != 0 || s.Has(1, 0) {
			t.Errorf("kind %d has bytes %q", kind, b)
		}
	}
}

// P6.2: an inode that is made begins anew, whatever one that is gone had.
func TestMakeBeginsAnew(t *testing.T) {
	s := store(t, 1, 3)
	made(t, s, api.KFile)
	ok(t, s.Write(1, 0, bytes.Repeat([]byte("x"), 150)))
	ok(t, s.Hold(1))
	ok(t, s.Release(1))
	ok(t, s.Release(1))
	made(t, s, api.KFile)
	stat(t, s, 2, api.Stat{Kind: api.KFile, Holds: 1})
	ok(t, s.Truncate(2, 3))
	reads(t, s, 2, 0, 10, "\x00\x00\x00")
	ok(t, s.Release(2))
	made(t, s, api.KDir)
	ok(t, s.Dir(3).Add("x", 1))
	ok(t, s.Release(3))
	made(t, s, api.KDir)
	stat(t, s, 4, api.Stat{Kind: api.KDir, Holds: 1})
}

// P6.2: a kind that there is none of, and a target of what is no symlink, are EINVAL, ahead of all else.
func TestMakeWrongKinds(t *testing.T) {
	full := store(t, 1, 0)
	made(t, full, api.KDir)
	long := strings.Repeat("t", api.MaxPath+1)
	for _, s := range []*Store{store(t, 5, 5), full} {
		was := show(s)
		for _, kind := range wrongKinds {
			for _, target := range []string{"", "a", "\x00", long} {
				if ino, e := s.Make(kind, target); ino != 0 || e != api.EINVAL {
					t.Errorf("Make(%d, %.5q): %d %d", kind, target, ino, e)
				}
			}
		}
		for _, kind := range []int{api.KFile, api.KDir, api.KBound} {
			for _, target := range []string{"a", "/", "\x00", " ", long} {
				if ino, e := s.Make(kind, target); ino != 0 || e != api.EINVAL {
					t.Errorf("Make(%d, %.5q): %d %d", kind, target, ino, e)
				}
			}
		}
		if show(s) != was {
			t.Errorf("%s, not %s", show(s), was)
		}
	}
}

// P6.2: a symlink's target has 1 to MaxPath bytes, none of them 0; that it is too long is told ahead of a 0, and each ahead of there being no room.
func TestMakeTargets(t *testing.T) {
	long := strings.Repeat("t", api.MaxPath)
	wide := strings.Repeat("é", api.MaxPath/2)
	cases := []struct {
		target string
		e      api.Errno
	}{
		{"", api.ENOENT},
		{long + "t", api.ENAMETOOLONG}, {wide + "t", api.ENAMETOOLONG}, {strings.Repeat("/", 5000), api.ENAMETOOLONG},
		{long + "\x00", api.ENAMETOOLONG}, {"\x00" + long, api.ENAMETOOLONG},
		{"\x00", api.EINVAL}, {"a\x00", api.EINVAL}, {"\x00a", api.EINVAL}, {"a\x00b", api.EINVAL},
		{long[1:] + "\x00", api.EINVAL}, {"\x00" + long[1:], api.EINVAL},
	}
	full := store(t, 1, 0)
	made(t, full, api.KSymlink)
	for _, s := range []*Store{store(t, 5, 5), full} {
		was := show(s)
		for _, c := range cases {
			if ino, e := s.Make(api.KSymlink, c.target); ino != 0 || e != c.e {
				t.Errorf("target %.5q of %d bytes: %d %d, not %d", c.target, len(c.target), ino, e, c.e)
			}
		}
		if show(s) != was {
			t.Errorf("%s, not %s", show(s), was)
		}
	}
	for _, target := range []string{long, wide, "a", "/", "..", "a//b/", " ", "0", "\x01", "\xff", long[1:], strings.Repeat("n", 100)} {
		s := store(t, 1, 0)
		if ino, e := s.Make(api.KSymlink, target); ino != 1 || e != api.OK {
			t.Errorf("target %.5q of %d bytes: %d %d", target, len(target), ino, e)
		}
		stat(t, s, 1, api.Stat{Kind: api.KSymlink, Size: len(target), Holds: 1})
		if got, is := s.Target(1); got != target || !is {
			t.Errorf("target %.5q is told as %.5q %v", target, got, is)
		}
	}
}

// P6.3: links and holds are counted apart, of each kind.
func TestCounts(t *testing.T) {
	for _, kind := range kinds {
		s := store(t, 2, 2)
		made(t, s, api.KFile)
		ino := made(t, s, kind)
		st, _ := s.Stat(ino)
		for _, step := range []struct {
			call         func(int) api.Errno
			links, holds int
		}{
			{s.Link, 1, 1}, {s.Link, 2, 1}, {s.Hold, 2, 2}, {s.Hold, 2, 3}, {s.Unlink, 1, 3},
			{s.Release, 1, 2}, {s.Unlink, 0, 2}, {s.Release, 0, 1}, {s.Link, 1, 1}, {s.Release, 1, 0}, {s.Hold, 1, 1},
		} {
			ok(t, step.call(ino))
			st.Links, st.Holds = step.links, step.holds
			stat(t, s, ino, st)
		}
		stat(t, s, 1, api.Stat{Kind: api.KFile, Holds: 1})
	}
}

// P6.3: of an inode that is not there, below 1, not yet made or gone, all four tell ENOENT.
func TestCountsOfNone(t *testing.T) {
	s := varied(t)
	was := show(s)
	for _, ino := range append(odd, 6, 7, 10, 11) {
		tells(t, fmt.Sprint("Link ", ino), s.Link(ino), api.ENOENT)
		tells(t, fmt.Sprint("Hold ", ino), s.Hold(ino), api.ENOENT)
		tells(t, fmt.Sprint("Unlink ", ino), s.Unlink(ino), api.ENOENT)
		tells(t, fmt.Sprint("Release ", ino), s.Release(ino), api.ENOENT)
	}
	if show(s) != was {
		t.Errorf("%s, not %s", show(s), was)
	}
}

// P6.3: exactly MaxLinks links, not one more; of each kind; one that goes makes room for another.
func TestMostLinks(t *testing.T) {
	for _, kind := range kinds {
		s := store(t, 1, 0)
		made(t, s, kind)
		st, _ := s.Stat(1)
		for i := range api.MaxLinks {
			ok(t, s.Link(1))
			st.Links = i + 1
			stat(t, s, 1, st)
		}
		if st.Links != 32 {
			t.Error(st)
		}
		for range 2 {
			tells(t, "one link more", s.Link(1), api.EMLINK)
			stat(t, s, 1, st)
		}
		ok(t, s.Unlink(1))
		ok(t, s.Link(1))
		tells(t, "one link more again", s.Link(1), api.EMLINK)
		stat(t, s, 1, st)
	}
}

// P6.3: holds have no bound, and are no links.
func TestManyHolds(t *testing.T) {
	s := store(t, 1, 0)
	made(t, s, api.KFile)
	for i := range 1000 {
		ok(t, s.Hold(1))
		stat(t, s, 1, api.Stat{Kind: api.KFile, Holds: i + 2})
	}
	for range api.MaxLinks {
		ok(t, s.Link(1))
	}
	ok(t, s.Hold(1))
	stat(t, s, 1, api.Stat{Kind: api.KFile, Links: api.MaxLinks, Holds: 1002})
	for range 1002 {
		ok(t, s.Release(1))
	}
	tells(t, "one release more", s.Release(1), api.EINVAL)
	stat(t, s, 1, api.Stat{Kind: api.KFile, Links: api.MaxLinks})
}

// P6.3: Unlink without links and Release without holds are EINVAL, and change nothing.
func TestNoneToTake(t *testing.T) {
	for _, kind := range kinds {
		s := store(t, 1, 0)
		made(t, s, kind)
		was := show(s)
		tells(t, "Unlink without links", s.Unlink(1), api.EINVAL)
		if show(s) != was {
			t.Errorf("kind %d: %s, not %s", kind, show(s), was)
		}
		ok(t, s.Link(1))
		ok(t, s.Release(1))
		was = show(s)
		tells(t, "Release without holds", s.Release(1), api.EINVAL)
		if show(s) != was {
			t.Errorf("kind %d: %s, not %s", kind, show(s), was)
		}
	}
}

// P6.3: an inode whose last link goes while it is held stays, till its last hold goes.
func TestLastLinkWhileHeld(t *testing.T) {
	s := store(t, 2, 4)
	made(t, s, api.KFile)
	ok(t, s.Write(1, 0, []byte("kept")))
	ok(t, s.Link(1))
	ok(t, s.Hold(1))
	ok(t, s.Unlink(1))
	stat(t, s, 1, api.Stat{Kind: api.KFile, Size: 4, Holds: 2, Blocks: 1})
	ok(t, s.Release(1))
	reads(t, s, 1, 0, 9, "kept")
	room(t, s, 1, 3)
	ok(t, s.Release(1))
	has(t, s, 2)
	room(t, s, 2, 4)
}

// P6.3: an inode whose last hold goes while it is linked stays, till its last link goes.
func TestLastHoldWhileLinked(t *testing.T) {
	s := store(t, 2, 4)
	made(t, s, api.KFile)
	ok(t, s.Write(1, 0, []byte("kept")))
	ok(t, s.Link(1))
	ok(t, s.Link(1))
	ok(t, s.Release(1))
	stat(t, s, 1, api.Stat{Kind: api.KFile, Size: 4, Links: 2, Blocks: 1})
	ok(t, s.Unlink(1))
	reads(t, s, 1, 0, 9, "kept")
	room(t, s, 1, 3)
	ok(t, s.Unlink(1))
	has(t, s, 2)
	room(t, s, 2, 4)
}

// P6.3: what is gone is gone for every call, of each kind; the others stay.
func TestGone(t *testing.T) {
	for _, kind := range kinds {
		for _, byLink := range []bool{false, true} {
			s := varied(t)
			was := show(s)
			ino := made(t, s, kind)
			if byLink {
				ok(t, s.Link(ino))
				ok(t, s.Release(ino))
				ok(t, s.Unlink(ino))
			} else {
				ok(t, s.Release(ino))
			}
			noInode(t, s, ino)
			if want := strings.Replace(was, "next 10,", "next 11,", 1); show(s) != want {
				t.Errorf("%s, not %s", show(s), want)
			}
		}
	}
}

// noInode says that no call knows that number.
func noInode(t *testing.T, s *Store, ino int) {
	t.Helper()
	what := fmt.Sprint("of ", ino)
	if st, e := s.Stat(ino); st != (api.Stat{}) || e != api.ENOENT {
		t.Error(what, st, e)
	}
	if target, is := s.Target(ino); target != "" || is {
		t.Error(what, target, is)
	}
	if s.Dir(ino) != nil || s.Has(ino, 0) || slices.Contains(s.All(), ino) {
		t.Error(what, "it is told")
	}
	if b, e := s.Read(ino, 0, 1); len(b) != 0 || e != api.ENOENT {
		t.Error(what, b, e)
	}
	for _, off := range []int{0, -1, api.MaxFile, math.MaxInt} {
		tells(t, what+" Write", s.Write(ino, off, []byte("x")), api.ENOENT)
		tells(t, what+" Truncate", s.Truncate(ino, off+1), api.ENOENT)
	}
	tells(t, what+" Truncate below 0", s.Truncate(ino, -1), api.ENOENT)
	tells(t, what+" Link", s.Link(ino), api.ENOENT)
	tells(t, what+" Hold", s.Hold(ino), api.ENOENT)
	tells(t, what+" Unlink", s.Unlink(ino), api.ENOENT)
	tells(t, what+" Release", s.Release(ino), api.ENOENT)
}

// P6.3, P6.4, P6.5: numbers of inodes that are not there are known by no call, which changes nothing.
func TestNumbersOfNone(t *testing.T) {
	s := varied(t)
	was := show(s)
	for _, ino := range append(odd, 6, 7, 10, 11) {
		noInode(t, s, ino)
	}
	if show(s) != was {
		t.Errorf("%s, not %s", show(s), was)
	}
}

// P6.4: Stat tells kind, size, links, holds and blocks of each kind.
func TestStat(t *testing.T) {
	s := varied(t)
	stat(t, s, 1, api.Stat{Kind: api.KFile, Size: 66, Holds: 1, Blocks: 2})
	stat(t, s, 2, api.Stat{Kind: api.KDir, Size: 1, Holds: 1})
	stat(t, s, 3, api.Stat{Kind: api.KSymlink, Size: 3, Holds: 1})
	stat(t, s, 4, api.Stat{Kind: api.KBound, Holds: 1})
	stat(t, s, 5, api.Stat{Kind: api.KFile, Links: 1})
	stat(t, s, 8, api.Stat{Kind: api.KFile, Size: 703, Holds: 2, Blocks: 1})
	stat(t, s, 9, api.Stat{Kind: api.KBound, Links: 32, Holds: 1})
}

// P6.4: a directory's size is its entries, which are changed by Dir.
func TestDir(t *testing.T) {
	s := store(t, 3, 0)
	for range 2 {
		made(t, s, api.KDir)
	}
	d := s.Dir(1)
	for i := range api.MaxEntries {
		ok(t, d.Add(fmt.Sprint("n", i), 1))
		stat(t, s, 1, api.Stat{Kind: api.KDir, Size: i + 1, Holds: 1})
	}
	if s.Dir(1) != d || s.Dir(1) == s.Dir(2) {
		t.Error("Dir is not the directory's own")
	}
	tells(t, "one entry more", s.Dir(1).Add("x", 1), api.ENOSPC)
	if n, e := s.Dir(1).Remove("n7"); n != 1 || e != api.OK {
		t.Error(n, e)
	}
	if n, e := s.Dir(1).Set("n8", 5); n != 1 || e != api.OK {
		t.Error(n, e)
	}
	if n, is := d.Find("n8"); n != 5 || !is {
		t.Error(n, is)
	}
	stat(t, s, 1, api.Stat{Kind: api.KDir, Size: api.MaxEntries - 1, Holds: 1})
	stat(t, s, 2, api.Stat{Kind: api.KDir, Holds: 1})
	room(t, s, 1, 0)
}

// P6.4: what a directory's entries name is neither linked nor held by them, and goes and stays without them.
func TestDirNamesNothing(t *testing.T) {
	s := store(t, 2, 0)
	made(t, s, api.KDir)
	made(t, s, api.KFile)
	ok(t, s.Dir(1).Add("f", 2))
	ok(t, s.Dir(1).Add("none", 77))
	stat(t, s, 2, api.Stat{Kind: api.KFile, Holds: 1})
	gone := s.Dir(1)
	ok(t, s.Release(1))
	has(t, s, 3, 2)
	stat(t, s, 2, api.Stat{Kind: api.KFile, Holds: 1})
	made(t, s, api.KDir)
	ok(t, gone.Add("late", 2))
	stat(t, s, 3, api.Stat{Kind: api.KDir, Holds: 1})
}

// P6.4: Target, Dir and Has are those of a symlink, a directory and a file, and of no other kind.
func TestOfOtherKinds(t *testing.T) {
	s := store(t, 4, 4)
	for _, kind := range kinds {
		made(t, s, kind)
	}
	ok(t, s.Write(1, 64, []byte("x")))
	for i, kind := range kinds {
		target, is := s.Target(i + 1)
		if is != (kind == api.KSymlink) || target != targetOf(kind) {
			t.Errorf("kind %d: Target %q %v", kind, target, is)
		}
		if (s.Dir(i+1) != nil) != (kind == api.KDir) {
			t.Errorf("kind %d: Dir %v", kind, s.Dir(i+1))
		}
		for _, block := range []int{0, 1, 2, -1, 1023, 1024, math.MinInt, math.MaxInt} {
			if s.Has(i+1, block) != (kind == api.KFile && block == 1) {
				t.Errorf("kind %d: Has(%d) %v", kind, block, s.Has(i+1, block))
			}
		}
	}
}

// P6.4: Dir of what is no directory is nil itself.
func TestDirIsNil(t *testing.T) {
	s := store(t, 4, 4)
	for i, kind := range kinds {
		made(t, s, kind)
		var none *dirs.Dir
		if d := s.Dir(i + 1); kind != api.KDir && d != none {
			t.Errorf("kind %d: %v", kind, d)
		}
	}
}

// P6.5: what is written is read, with holes.
func TestReadAndWrite(t *testing.T) {
	s := store(t, 2, 20)
	made(t, s, api.KDir)
	made(t, s, api.KFile)
	reads(t, s, 2, 0, 10, "")
	ok(t, s.Write(2, 100, []byte("x")))
	reads(t, s, 2, 99, 5, "\x00x")
	stat(t, s, 2, api.Stat{Kind: api.KFile, Size: 101, Holds: 1, Blocks: 1})
	if s.Has(2, 0) || !s.Has(2, 1) {
		t.Error("blocks")
	}
	ok(t, s.Write(2, 62, []byte("abcd")))
	reads(t, s, 2, 61, 6, "\x00abcd\x00")
	stat(t, s, 2, api.Stat{Kind: api.KFile, Size: 101, Holds: 1, Blocks: 2})
	ok(t, s.Write(2, 0, bytes.Repeat([]byte("y"), 300)))
	reads(t, s, 2, 0, math.MaxInt, strings.Repeat("y", 300))
	reads(t, s, 2, 298, 2, "yy")
	stat(t, s, 2, api.Stat{Kind: api.KFile, Size: 300, Holds: 1, Blocks: 5})
	ok(t, s.Write(2, 900, nil))
	ok(t, s.Write(2, 900, []byte{}))
	stat(t, s, 2, api.Stat{Kind: api.KFile, Size: 300, Holds: 1, Blocks: 5})
}

// P6.5: Read of places that are not there is none, and OK, as sparse.Read's.
func TestReadOfNoPlaces(t *testing.T) {
	s := varied(t)
	for _, c := range [][2]int{{-1, 5}, {66, 1}, {67, 1}, {0, 0}, {0, -1}, {-1, -1}, {65536, 1}, {math.MaxInt, math.MaxInt}, {math.MinInt, math.MinInt}, {math.MaxInt, 1}, {0, math.MinInt}} {
		reads(t, s, 1, c[0], c[1], "")
	}
	reads(t, s, 1, 65, math.MaxInt, "s")
}

// P6.5: Truncate cuts and makes longer, and blocks come back with it.
func TestTruncate(t *testing.T) {
	s := store(t, 1, 4)
	made(t, s, api.KFile)
	ok(t, s.Write(1, 0, bytes.Repeat([]byte("z"), 256)))
	room(t, s, 0, 0)
	ok(t, s.Truncate(1, 65))
	room(t, s, 0, 2)
	stat(t, s, 1, api.Stat{Kind: api.KFile, Size: 65, Holds: 1, Blocks: 2})
	ok(t, s.Truncate(1, 256))
	room(t, s, 0, 2)
	stat(t, s, 1, api.Stat{Kind: api.KFile, Size: 256, Holds: 1, Blocks: 2})
	reads(t, s, 1, 63, 4, "zz\x00\x00")
	ok(t, s.Truncate(1, api.MaxFile))
	stat(t, s, 1, api.Stat{Kind: api.KFile, Size: 65536, Holds: 1, Blocks: 2})
	ok(t, s.Truncate(1, 0))
	room(t, s, 0, 4)
	stat(t, s, 1, api.Stat{Kind: api.KFile, Holds: 1})
}

// P6.5: Read, Write and Truncate of what is no file are EINVAL, whatever the places; nothing is changed.
func TestOfNoFile(t *testing.T) {
	s := varied(t)
	was := show(s)
	for _, ino := range []int{2, 3, 4, 9} {
		for _, at := range []int{0, 1, -1, api.MaxFile, api.MaxFile + 1, math.MinInt, math.MaxInt} {
			what := fmt.Sprintf("of %d at %d", ino, at)
			if b, e := s.Read(ino, at, 5); len(b) != 0 || e != api.EINVAL {
				t.Error(what, b, e)
			}
			if b, e := s.Read(ino, 0, at); len(b) != 0 || e != api.EINVAL {
				t.Error(what, b, e)
			}
			tells(t, what, s.Write(ino, at, []byte("x")), api.EINVAL)
			tells(t, what, s.Write(ino, at, nil), api.EINVAL)
			tells(t, what, s.Truncate(ino, at), api.EINVAL)
		}
	}
	if show(s) != was {
		t.Errorf("%s, not %s", show(s), was)
	}
}

// P6.5: Write and Truncate tell sparse's errors, in its order, and change nothing with them.
func TestSparseErrors(t *testing.T) {
	s := varied(t)
	ok(t, s.Write(8, 0, make([]byte, 128)))
	room(t, s, 2, 0)
	was := show(s)
	for _, c := range []struct {
		off, n int
		e      api.Errno
	}{
		{-1, 1, api.EINVAL}, {-1, 0, api.EINVAL}, {math.MinInt, 70000, api.EINVAL},
		{65536, 1, api.EFBIG}, {65535, 2, api.EFBIG}, {0, 65537, api.EFBIG}, {math.MaxInt, 1, api.EFBIG}, {math.MaxInt, 0, api.EFBIG},
		{128, 1, api.ENOSPC}, {65535, 1, api.ENOSPC}, {0, 65536, api.ENOSPC}, {127, 2, api.ENOSPC}, {64, 65, api.ENOSPC},
	} {
		tells(t, fmt.Sprintf("Write(1, %d, %d bytes)", c.off, c.n), s.Write(1, c.off, make([]byte, c.n)), c.e)
	}
	for _, n := range []int{-1, math.MinInt} {
		tells(t, fmt.Sprint("Truncate ", n), s.Truncate(1, n), api.EINVAL)
	}
	for _, n := range []int{65537, math.MaxInt} {
		tells(t, fmt.Sprint("Truncate ", n), s.Truncate(1, n), api.EFBIG)
	}
	if show(s) != was {
		t.Errorf("%s, not %s", show(s), was)
	}
	ok(t, s.Write(1, 0, bytes.Repeat([]byte("."), 128))) // what it has blocks for goes without room
	room(t, s, 2, 0)
}

// P6.5: bytes that are handed in are neither changed nor kept, and what is read is new memory.
func TestBytesAreCopied(t *testing.T) {
	s := store(t, 1, 4)
	made(t, s, api.KFile)
	whole := []byte("0123456789abcdef")
	ok(t, s.Write(1, 0, whole[:10]))
	if string(whole) != "0123456789abcdef" {
		t.Errorf("changed: %q", whole)
	}
	clear(whole)
	reads(t, s, 1, 0, 20, "0123456789")
	a, _ := s.Read(1, 0, 5)
	b, _ := s.Read(1, 0, 20)
	for i := range a[:cap(a)] {
		a[:cap(a)][i] = '!'
	}
	if string(b) != "0123456789" {
		t.Errorf("two answers share: %q", b)
	}
	clear(b[:cap(b)])
	reads(t, s, 1, 0, 20, "0123456789")
}

// P6.6: room for blocks is shared by all files, and is what there was less what they have.
func TestRoomForBlocks(t *testing.T) {
	s := store(t, 3, 5)
	for range 3 {
		made(t, s, api.KFile)
	}
	page := bytes.Repeat([]byte("p"), api.Page)
	ok(t, s.Write(1, 0, page))
	room(t, s, 0, 4)
	ok(t, s.Write(2, 32, page)) // two of them, half and half
	room(t, s, 0, 2)
	ok(t, s.Write(2, 96, page[:1])) // it has that one
	room(t, s, 0, 2)
	tells(t, "three where there is room for two", s.Write(3, 1, make([]byte, 128)), api.ENOSPC)
	room(t, s, 0, 2)
	ok(t, s.Write(3, 0, make([]byte, 128)))
	room(t, s, 0, 0)
	tells(t, "one more", s.Write(1, 64, page[:1]), api.ENOSPC)
	ok(t, s.Write(1, 0, page[:5]))
	ok(t, s.Truncate(2, 64))
	room(t, s, 0, 1)
	ok(t, s.Write(1, 64, page[:1]))
	room(t, s, 0, 0)
	ok(t, s.Release(3))
	room(t, s, 1, 2)
	ok(t, s.Write(1, 200, page))
	room(t, s, 1, 0)
}

// P6.6: an inode's blocks are room again when it is gone, and not before.
func TestRoomComesBack(t *testing.T) {
	s := store(t, 2, 3)
	for round := range 50 {
		ino := made(t, s, api.KFile)
		ok(t, s.Write(ino, 1000, make([]byte, 3*api.Page-40)))
		room(t, s, 1, 0)
		ok(t, s.Link(ino))
		ok(t, s.Release(ino))
		room(t, s, 1, 0)
		if round%2 == 0 {
			ok(t, s.Truncate(ino, 1010))
			room(t, s, 1, 2)
		}
		ok(t, s.Unlink(ino))
		room(t, s, 2, 3)
	}
}

// P6.6: a store without blocks has files, of no bytes that are written.
func TestNoBlocks(t *testing.T) {
	s := store(t, 1, 0)
	made(t, s, api.KFile)
	tells(t, "Write", s.Write(1, 0, []byte("x")), api.ENOSPC)
	ok(t, s.Write(1, 0, nil))
	ok(t, s.Truncate(1, 500))
	reads(t, s, 1, 498, 5, "\x00\x00")
	tells(t, "Write", s.Write(1, 10, []byte("x")), api.ENOSPC)
	stat(t, s, 1, api.Stat{Kind: api.KFile, Size: 500, Holds: 1})
	room(t, s, 0, 0)
}

// P6.6: MaxBlocks blocks may be had, not one more.
func TestMostBlocks(t *testing.T) {
	s := store(t, 5, api.MaxBlocks)
	for i := range 4 {
		ino := made(t, s, api.KFile)
		ok(t, s.Write(ino, 0, make([]byte, api.MaxFile)))
		room(t, s, 4-i, api.MaxBlocks-(i+1)*1024)
	}
	made(t, s, api.KFile)
	tells(t, "one more", s.Write(5, 0, []byte("x")), api.ENOSPC)
	ok(t, s.Truncate(1, 0))
	ok(t, s.Write(5, 0, make([]byte, api.MaxFile)))
	room(t, s, 0, 0)
}

// A nil store is like one without inodes and room; what tells errors tells EINVAL of it, whatever else is wrong.
func TestNilStore(t *testing.T) {
	var s *Store
	has(t, s, 0)
	room(t, s, 0, 0)
	for _, kind := range append(slices.Clone(wrongKinds), kinds...) {
		for _, target := range []string{"", "a", "\x00", strings.Repeat("t", api.MaxPath+1)} {
			if ino, e := s.Make(kind, target); ino != 0 || e != api.EINVAL {
				t.Errorf("Make(%d, %.5q): %d %d", kind, target, ino, e)
			}
		}
	}
	for _, ino := range append(slices.Clone(odd), 1, 2, 256) {
		if st, e := s.Stat(ino); st != (api.Stat{}) || e != api.EINVAL {
			t.Error("Stat", ino, st, e)
		}
		if b, e := s.Read(ino, 0, 1); len(b) != 0 || e != api.EINVAL {
			t.Error("Read", ino, b, e)
		}
		tells(t, "Link", s.Link(ino), api.EINVAL)
		tells(t, "Unlink", s.Unlink(ino), api.EINVAL)
		tells(t, "Hold", s.Hold(ino), api.EINVAL)
		tells(t, "Release", s.Release(ino), api.EINVAL)
		tells(t, "Write", s.Write(ino, 0, []byte("x")), api.EINVAL)
		tells(t, "Write", s.Write(ino, api.MaxFile, []byte("x")), api.EINVAL)
		tells(t, "Truncate", s.Truncate(ino, 0), api.EINVAL)
		tells(t, "Truncate", s.Truncate(ino, api.MaxFile+1), api.EINVAL)
		if target, is := s.Target(ino); target != "" || is {
			t.Error("Target", ino, target, is)
		}
		if s.Dir(ino) != nil || s.Has(ino, 0) {
			t.Error("Dir or Has", ino)
		}
	}
	has(t, s, 0)
	room(t, s, 0, 0)
}

// The zero value is not made by New: what it answers is open, but no call of it panics.
func TestZeroValueDoesNotPanic(t *testing.T) {
	var s Store
	for _, kind := range kinds {
		s.Make(kind, targetOf(kind))
	}
	for ino := range 3 {
		s.Link(ino)
		s.Hold(ino)
		s.Write(ino, 0, []byte("x"))
		s.Truncate(ino, 0)
		s.Unlink(ino)
		s.Release(ino)
		s.Read(ino, 0, 1)
		s.Target(ino)
		s.Has(ino, 0)
	}
	show(&s)
}

// The chapter's example.
func TestExample(t *testing.T) {
	s := store(t, 1, 0)
	if ino, e := s.Make(api.KFile, ""); ino != 1 || e != api.OK {
		t.Error(ino, e)
	}
	ok(t, s.Link(1))
	ok(t, s.Release(1))
	ok(t, s.Unlink(1))
	has(t, s, 2)
}
