package memfs

import (
	"fmt"
	"math"
	"slices"
	"strings"
	"testing"

	"purlieu/api"
)

// kinds are all that an inode may be; wrongKinds are some that it may not.
var (
	kinds      = []int{api.KFile, api.KDir, api.KSymlink, api.KBound}
	wrongKinds = []int{0, -1, api.KPipe, api.KSock, api.KProc, 8, 100, math.MinInt, math.MaxInt}
)

// odd are numbers that no inode ever has.
var odd = []int{0, -1, -2, 1 << 40, math.MinInt, math.MaxInt}

// long is a name of as many bytes as a name may have.
var long = strings.Repeat("n", api.MaxName)

// refused are texts that are no names, with what path.Name says of them.
var refused = []struct {
	name string
	e    api.Errno
}{
	{"", api.ENOENT},
	{long + "n", api.ENAMETOOLONG},
	{strings.Repeat("/", api.MaxName+1), api.ENAMETOOLONG},
	{".", api.EINVAL},
	{"..", api.EINVAL},
	{"/", api.EINVAL},
	{"a/b", api.EINVAL},
	{"a/", api.EINVAL},
	{"a\x00", api.EINVAL},
}

// refusedKinds are kinds and targets of which nothing is made, with what inodes.Make says of them.
var refusedKinds = []struct {
	kind   int
	target string
	e      api.Errno
}{
	{0, "", api.EINVAL}, {-1, "", api.EINVAL}, {api.KPipe, "", api.EINVAL}, {api.KSock, "", api.EINVAL}, {api.KProc, "", api.EINVAL},
	{math.MinInt, "", api.EINVAL}, {math.MaxInt, "t", api.EINVAL},
	{api.KFile, "t", api.EINVAL}, {api.KDir, "t", api.EINVAL}, {api.KBound, "t", api.EINVAL},
	{api.KSymlink, "", api.ENOENT},
	{api.KSymlink, strings.Repeat("t", api.MaxPath+1), api.ENAMETOOLONG},
	{api.KSymlink, strings.Repeat("\x00", api.MaxPath+1), api.ENAMETOOLONG},
	{api.KSymlink, "a\x00b", api.EINVAL},
}

// targetOf answers what an inode of that kind may be made with.
func targetOf(kind int) string {
	if kind == api.KSymlink {
		return "a/b"
	}
	return ""
}

// newFS answers a new file system, which must be one.
func newFS(t *testing.T, inodes, blocks int) *FS {
	t.Helper()
	f := New(inodes, blocks)
	if f == nil {
		t.Fatalf("New(%d, %d): nil", inodes, blocks)
	}
	return f
}

// made makes an inode, which must go well.
func made(t *testing.T, f *FS, dir int, name string, kind int) int {
	t.Helper()
	ino, e := f.Create(dir, name, kind, targetOf(kind))
	if e != api.OK {
		t.Fatalf("Create(%d, %q, %d): %d", dir, name, kind, e)
	}
	return ino
}

// ok says that a call went well.
func ok(t *testing.T, e api.Errno) {
	t.Helper()
	if e != api.OK {
		t.Fatalf("error %d", e)
	}
}

// show writes all that f has.
func show(f system) string {
	inodes, blocks := f.Room()
	out := fmt.Sprintf("next %d, room %d %d", f.Next(), inodes, blocks)
	for _, x := range f.Dump() {
		out += fmt.Sprintf("\n%+v", x)
	}
	return out
}

// refuses says which error a call tells, and that it changes nothing.
func refuses(t *testing.T, f *FS, what string, want api.Errno, call func() api.Errno) {
	t.Helper()
	was := show(f)
	if e := call(); e != want {
		t.Errorf("%s: %d, not %d", what, e, want)
	}
	if now := show(f); now != was {
		t.Errorf("%s: changed\n%s\nto\n%s", what, was, now)
	}
}

// creating answers a call of Create, which with an error must tell 0.
func creating(t *testing.T, f *FS, dir int, name string, kind int, target string) func() api.Errno {
	return func() api.Errno {
		ino, e := f.Create(dir, name, kind, target)
		if e != api.OK && ino != 0 {
			t.Errorf("Create(%d, %q): %d beside the error %d", dir, name, ino, e)
		}
		return e
	}
}

// linking, unlinking, removing and renaming answer calls of Link, Unlink, Rmdir and Rename.
func linking(f *FS, dir int, name string, ino int) func() api.Errno {
	return func() api.Errno { return f.Link(dir, name, ino) }
}

func unlinking(f *FS, dir int, name string) func() api.Errno {
	return func() api.Errno { return f.Unlink(dir, name) }
}

func removing(f *FS, dir int, name string) func() api.Errno {
	return func() api.Errno { return f.Rmdir(dir, name) }
}

func renaming(f *FS, d1 int, n1 string, d2 int, n2 string) func() api.Errno {
	return func() api.Errno { return f.Rename(d1, n1, d2, n2) }
}

// finds says what a name leads to.
func finds(t *testing.T, f *FS, dir int, name string, want int) {
	t.Helper()
	if ino, e := f.Lookup(dir, name); ino != want || e != api.OK {
		t.Errorf("Lookup(%d, %q): %d %d, not %d", dir, name, ino, e, want)
	}
}

// misses says which error Lookup tells, with 0 ahead.
func misses(t *testing.T, f *FS, dir int, name string, want api.Errno) {
	t.Helper()
	if ino, e := f.Lookup(dir, name); ino != 0 || e != want {
		t.Errorf("Lookup(%d, %q): %d %d, not 0 %d", dir, name, ino, e, want)
	}
}

// has says which names a directory has.
func has(t *testing.T, f *FS, dir int, names ...string) {
	t.Helper()
	if l, e := f.List(dir, 0, 1000); !slices.Equal(l, names) || e != api.OK {
		t.Errorf("List(%d): %q %d, not %q", dir, l, e, names)
	}
}

// stat says what is known of an inode.
func stat(t *testing.T, f *FS, ino int, want api.Stat) {
	t.Helper()
	if st, e := f.Stat(ino); st != want || e != api.OK {
		t.Errorf("Stat(%d): %v %d, not %v", ino, st, e, want)
	}
}

// isGone says that there is no such inode.
func isGone(t *testing.T, f *FS, ino int) {
	t.Helper()
	if st, e := f.Stat(ino); st != (api.Stat{}) || e != api.ENOENT {
		t.Errorf("Stat(%d): %v %d: it is not gone", ino, st, e)
	}
}

// room says how much room there is.
func room(t *testing.T, f *FS, inodes, blocks int) {
	t.Helper()
	if i, b := f.Room(); i != inodes || b != blocks {
		t.Errorf("room %d %d, not %d %d", i, b, inodes, blocks)
	}
}

// sound says that P7.7 and P7.8 hold.
func sound(t *testing.T, f *FS) {
	t.Helper()
	if wrong := unsound(f); wrong != "" {
		t.Error(wrong)
	}
}

// fill gives a directory new names, of one file, or of further ones where that has all its links, till it has n entries.
func fill(t *testing.T, f *FS, dir, n int) {
	t.Helper()
	ino := 0
	st, _ := f.Stat(dir)
	for i := range n - st.Size {
		name := fmt.Sprintf("z%03d", i)
		if i%api.MaxLinks == 0 {
			ino = made(t, f, dir, name, api.KFile)
		} else {
			ok(t, f.Link(dir, name, ino))
		}
	}
	if st, _ := f.Stat(dir); st.Size != n {
		t.Fatalf("%d has %d entries, not %d", dir, st.Size, n)
	}
}

// varied answers a file system with inodes in all states: directories 2 (/a), 3 (/a/b), 4 (/c, without entries); file 5 (/f and /a/g), symlink 6 (/l), socket's name 7 (/s); 8 is a directory, 9 a file, both held without a link; 10 and 11, a directory and a file, are gone; 12 is a file (/a/b/h).
func varied(t *testing.T) *FS {
	t.Helper()
	f := newFS(t, 14, 6)
	made(t, f, 1, "a", api.KDir)
	made(t, f, 2, "b", api.KDir)
	made(t, f, 1, "c", api.KDir)
	made(t, f, 1, "f", api.KFile)
	ok(t, f.Link(2, "g", 5))
	ok(t, f.Write(5, 62, []byte("four")))
	made(t, f, 1, "l", api.KSymlink)
	made(t, f, 1, "s", api.KBound)
	made(t, f, 2, "x", api.KDir)
	made(t, f, 2, "y", api.KFile)
	ok(t, f.Write(9, 0, []byte("kept")))
	ok(t, f.Hold(8))
	ok(t, f.Hold(9))
	made(t, f, 1, "d", api.KDir)
	made(t, f, 1, "e", api.KFile)
	ok(t, f.Rmdir(2, "x"))
	ok(t, f.Unlink(2, "y"))
	ok(t, f.Rmdir(1, "d"))
	ok(t, f.Unlink(1, "e"))
	made(t, f, 3, "h", api.KFile)
	return f
}

// noDirs are numbers of varied that are none to go into, with the errors of them.
func noDirs() map[int]api.Errno {
	no := map[int]api.Errno{5: api.ENOTDIR, 6: api.ENOTDIR, 7: api.ENOTDIR, 9: api.ENOTDIR, 12: api.ENOTDIR, 8: api.ENOENT, 10: api.ENOENT, 11: api.ENOENT, 13: api.ENOENT, 14: api.ENOENT}
	for _, ino := range odd {
		no[ino] = api.ENOENT
	}
	return no
}

// P7.1: New asks for what inodes.New asks for; else there is none.
func TestNew(t *testing.T) {
	for _, c := range []struct {
		inodes, blocks int
		there          bool
	}{
		{1, 0, true}, {1, 4096, true}, {256, 0, true}, {256, 4096, true}, {2, 1, true}, {255, 4095, true},
		{0, 0, false}, {0, 1, false}, {-1, 10, false}, {257, 0, false}, {257, 4096, false},
		{1, -1, false}, {1, 4097, false}, {256, 4097, false}, {256, -1, false}, {0, -1, false}, {257, 4097, false},
		{math.MinInt, 1, false}, {math.MaxInt, 1, false}, {1, math.MinInt, false}, {1, math.MaxInt, false},
	} {
		f := New(c.inodes, c.blocks)
		if (f != nil) != c.there {
			t.Errorf("New(%d, %d) there: %v", c.inodes, c.blocks, f != nil)
		}
		if f != nil {
			room(t, f, c.inodes-1, c.blocks)
		}
	}
}

// P7.1: at first there is the root alone, which takes an inode's room, has no link and one hold, and lies in itself.
func TestRoot(t *testing.T) {
	f := newFS(t, 3, 2)
	stat(t, f, 1, api.Stat{Kind: api.KDir, Holds: 1})
	finds(t, f, 1, ".", 1)
	finds(t, f, 1, "..", 1)
	has(t, f, 1)
	room(t, f, 2, 2)
	if f.Next() != 2 || !f.Within(1, 1) {
		t.Errorf("next %d, within itself %v", f.Next(), f.Within(1, 1))
	}
	if d := f.Dump(); len(d) != 1 || d[0].Ino != 1 || d[0].Kind != api.KDir || d[0].Parent != 1 || d[0].Links != 0 || d[0].Holds != 1 {
		t.Errorf("%+v", d)
	}
}

// P7.1: where there is room for one inode, that is the root.
func TestRootAlone(t *testing.T) {
	f := newFS(t, 1, 4)
	room(t, f, 0, 4)
	for _, kind := range kinds {
		refuses(t, f, fmt.Sprint("kind ", kind), api.ENOSPC, creating(t, f, 1, "a", kind, targetOf(kind)))
	}
}

// P7.1: the root's one hold stays; further ones come and go.
func TestRootStays(t *testing.T) {
	f := newFS(t, 3, 2)
	release := func() api.Errno { return f.Release(1) }
	for more := range 4 {
		refuses(t, f, "the root's one hold", api.EINVAL, release)
		for i := range more {
			ok(t, f.Hold(1))
			stat(t, f, 1, api.Stat{Kind: api.KDir, Holds: i + 2})
		}
		for i := range more {
			ok(t, f.Release(1))
			stat(t, f, 1, api.Stat{Kind: api.KDir, Holds: more - i})
		}
	}
	refuses(t, f, "the root's one hold", api.EINVAL, release)
	finds(t, f, 1, "..", 1)
	ino := made(t, f, 1, "a", api.KDir)
	ok(t, f.Hold(ino))
	ok(t, f.Release(ino)) // of another directory the one hold goes
	stat(t, f, ino, api.Stat{Kind: api.KDir, Links: 1})
}

// P7.1: file systems know nothing of one another.
func TestTwoFileSystems(t *testing.T) {
	a, b := newFS(t, 4, 4), newFS(t, 4, 4)
	made(t, a, 1, "x", api.KDir)
	made(t, a, 2, "y", api.KFile)
	has(t, b, 1)
	misses(t, b, 2, ".", api.ENOENT)
	room(t, b, 3, 4)
	made(t, b, 1, "z", api.KFile)
	has(t, a, 1, "x")
	misses(t, b, 2, ".", api.ENOTDIR)
	finds(t, a, 2, ".", 2)
	if a.Next() != 4 || b.Next() != 3 {
		t.Error(a.Next(), b.Next())
	}
}

// P7.1: of what is no directory to go into each call tells the error of it, ahead of all that is wrong besides.
func TestNoDirectories(t *testing.T) {
	f := varied(t)
	for dir, want := range noDirs() {
		for _, name := range []string{".", "..", "a", "f", "no", "", "a/b", long + "n", "\x00"} {
			misses(t, f, dir, name, want)
			what := fmt.Sprintf("of %d and %.4q ", dir, name)
			refuses(t, f, what+"Create", want, creating(t, f, dir, name, api.KFile, ""))
			refuses(t, f, what+"Create of a wrong kind", want, creating(t, f, dir, name, 99, ""))
			refuses(t, f, what+"Link", want, linking(f, dir, name, 5))
			refuses(t, f, what+"Link of a directory", want, linking(f, dir, name, 2))
			refuses(t, f, what+"Link of none", want, linking(f, dir, name, 99))
			refuses(t, f, what+"Unlink", want, unlinking(f, dir, name))
			refuses(t, f, what+"Rmdir", want, removing(f, dir, name))
			refuses(t, f, what+"Rename from", want, renaming(f, dir, name, 1, "no"))
			refuses(t, f, what+"Rename to", want, renaming(f, 1, "f", dir, name))
			refuses(t, f, what+"Rename of none to", want, renaming(f, 1, name, dir, "x"))
		}
		for _, from := range []int{0, -1, 5} {
			if l, e := f.List(dir, from, 5); len(l) != 0 || e != want {
				t.Errorf("List(%d, %d, 5): %q %d", dir, from, l, e)
			}
		}
	}
}

// P7.1: a directory that is held without a link is there, but none to go into; with its last hold it is gone.
func TestDirectoryWithoutLink(t *testing.T) {
	f := newFS(t, 3, 0)
	made(t, f, 1, "a", api.KDir)
	ok(t, f.Hold(2))
	ok(t, f.Hold(2))
	finds(t, f, 2, ".", 2)
	ok(t, f.Rmdir(1, "a"))
	for range 2 {
		misses(t, f, 2, ".", api.ENOENT)
		misses(t, f, 2, "..", api.ENOENT)
		misses(t, f, 2, "x", api.ENOENT)
		room(t, f, 1, 0)
		refuses(t, f, "Link of it", api.EPERM, linking(f, 1, "b", 2))
		ok(t, f.Release(2))
	}
	isGone(t, f, 2)
	room(t, f, 2, 0)
	refuses(t, f, "Link of it", api.ENOENT, linking(f, 1, "b", 2))
	if ino := made(t, f, 1, "a", api.KDir); ino != 3 {
		t.Errorf("number %d", ino)
	}
}

// P7.1: Hold and Release are those of inodes, of what has links, too.
func TestHoldAndRelease(t *testing.T) {
	for _, kind := range kinds {
		f := newFS(t, 3, 3)
		ino := made(t, f, 1, "x", kind)
		st := api.Stat{Kind: kind, Size: len(targetOf(kind)), Links: 1}
		refuses(t, f, "Release without holds", api.EINVAL, func() api.Errno { return f.Release(ino) })
		for i := range 3 {
			ok(t, f.Hold(ino))
			st.Holds = i + 1
			stat(t, f, ino, st)
		}
		for i := range 3 {
			ok(t, f.Release(ino))
			st.Holds = 2 - i
			stat(t, f, ino, st)
		}
		refuses(t, f, "Release without holds", api.EINVAL, func() api.Errno { return f.Release(ino) })
		finds(t, f, 1, "x", ino)
	}
	f := varied(t)
	for _, ino := range append(odd, 10, 11, 13) {
		refuses(t, f, fmt.Sprint("Hold ", ino), api.ENOENT, func() api.Errno { return f.Hold(ino) })
		refuses(t, f, fmt.Sprint("Release ", ino), api.ENOENT, func() api.Errno { return f.Release(ino) })
	}
}

// P7.1: Stat and Target are those of inodes.
func TestStatAndTarget(t *testing.T) {
	f := varied(t)
	for ino, want := range map[int]api.Stat{
		1: {Kind: api.KDir, Size: 5, Holds: 1}, 2: {Kind: api.KDir, Size: 2, Links: 1}, 3: {Kind: api.KDir, Size: 1, Links: 1}, 4: {Kind: api.KDir, Links: 1},
		5: {Kind: api.KFile, Size: 66, Links: 2, Blocks: 2}, 6: {Kind: api.KSymlink, Size: 3, Links: 1}, 7: {Kind: api.KBound, Links: 1},
		8: {Kind: api.KDir, Holds: 1}, 9: {Kind: api.KFile, Size: 4, Holds: 1, Blocks: 1}, 12: {Kind: api.KFile, Links: 1},
	} {
		stat(t, f, ino, want)
		if target, is := f.Target(ino); is != (ino == 6) || target != map[bool]string{true: "a/b"}[is] {
			t.Errorf("Target(%d): %q %v", ino, target, is)
		}
	}
	for _, ino := range append(odd, 10, 11, 13) {
		isGone(t, f, ino)
		if target, is := f.Target(ino); target != "" || is {
			t.Errorf("Target(%d): %q %v", ino, target, is)
		}
	}
}

// P7.1: Read, Write and Truncate are those of inodes, with the room that there is for blocks.
func TestBytes(t *testing.T) {
	f := newFS(t, 4, 2)
	made(t, f, 1, "f", api.KFile)
	made(t, f, 1, "g", api.KFile)
	ok(t, f.Write(2, 60, []byte("across")))
	room(t, f, 1, 0)
	reads(t, f, 2, 58, 100, "\x00\x00across")
	reads(t, f, 2, 66, 5, "")
	reads(t, f, 2, -1, 5, "")
	reads(t, f, 3, 0, 5, "")
	refuses(t, f, "no block", api.ENOSPC, func() api.Errno { return f.Write(3, 0, []byte("x")) })
	refuses(t, f, "a place below 0", api.EINVAL, func() api.Errno { return f.Write(2, -1, []byte("x")) })
	refuses(t, f, "too far", api.EFBIG, func() api.Errno { return f.Write(2, api.MaxFile, []byte("x")) })
	refuses(t, f, "a size below 0", api.EINVAL, func() api.Errno { return f.Truncate(2, -1) })
	refuses(t, f, "too big", api.EFBIG, func() api.Errno { return f.Truncate(2, api.MaxFile+1) })
	ok(t, f.Truncate(2, 62))
	room(t, f, 1, 1)
	ok(t, f.Write(3, 0, []byte("x")))
	room(t, f, 1, 0)
	ok(t, f.Unlink(1, "f"))
	room(t, f, 2, 1)
}

// reads says which bytes are read.
func reads(t *testing.T, f *FS, ino, off, n int, want string) {
	t.Helper()
	if b, e := f.Read(ino, off, n); string(b) != want || e != api.OK {
		t.Errorf("Read(%d, %d, %d): %q %d, not %q", ino, off, n, b, e, want)
	}
}

// P7.1: of what is no file, or not there, there are no bytes.
func TestNoBytes(t *testing.T) {
	f := varied(t)
	no := map[int]api.Errno{1: api.EINVAL, 2: api.EINVAL, 6: api.EINVAL, 7: api.EINVAL, 8: api.EINVAL, 10: api.ENOENT, 11: api.ENOENT, 13: api.ENOENT}
	for _, ino := range odd {
		no[ino] = api.ENOENT
	}
	for ino, want := range no {
		if b, e := f.Read(ino, 0, 5); len(b) != 0 || e != want {
			t.Errorf("Read(%d): %q %d", ino, b, e)
		}
		refuses(t, f, fmt.Sprint("Write ", ino), want, func() api.Errno { return f.Write(ino, 0, []byte("x")) })
		refuses(t, f, fmt.Sprint("Truncate ", ino), want, func() api.Errno { return f.Truncate(ino, 5) })
	}
}

// P7.1: a file that is held without a link has its bytes still, and takes more; with its last hold they are room again.
func TestFileWithoutLink(t *testing.T) {
	f := newFS(t, 2, 3)
	made(t, f, 1, "f", api.KFile)
	ok(t, f.Write(2, 0, []byte("kept")))
	ok(t, f.Hold(2))
	ok(t, f.Unlink(1, "f"))
	has(t, f, 1)
	ok(t, f.Write(2, 100, []byte("more")))
	reads(t, f, 2, 0, 4, "kept")
	room(t, f, 0, 1)
	ok(t, f.Release(2))
	isGone(t, f, 2)
	room(t, f, 1, 3)
}

// P7.1: what is written is not kept, what is read is new.
func TestMemoryOfBytes(t *testing.T) {
	f := newFS(t, 2, 3)
	made(t, f, 1, "f", api.KFile)
	b := []byte("abc")
	ok(t, f.Write(2, 0, b))
	copy(b, "xxx")
	got, _ := f.Read(2, 0, 3)
	copy(got, "yyy")
	reads(t, f, 2, 0, 3, "abc")
}

// P7.2: Lookup of names, of "." and of "..".
func TestLookup(t *testing.T) {
	f := varied(t)
	for _, c := range []struct {
		dir  int
		name string
		want int
	}{
		{1, "a", 2}, {1, "c", 4}, {1, "f", 5}, {1, "l", 6}, {1, "s", 7}, {2, "b", 3}, {2, "g", 5}, {3, "h", 12},
		{1, ".", 1}, {2, ".", 2}, {3, ".", 3}, {4, ".", 4},
		{1, "..", 1}, {2, "..", 1}, {3, "..", 2}, {4, "..", 1},
	} {
		finds(t, f, c.dir, c.name, c.want)
	}
	for _, dir := range []int{1, 2, 3, 4} {
		for _, name := range []string{"no", "A", "aa", "...", "d", "e", "x", "y", long} {
			misses(t, f, dir, name, api.ENOENT)
		}
		for _, r := range refused {
			if r.name != "." && r.name != ".." {
				misses(t, f, dir, r.name, r.e)
			}
		}
	}
}

// P7.2: List is dirs.Page: sorted by bytes, from a place on, so many at most.
func TestList(t *testing.T) {
	f := newFS(t, 10, 0)
	for _, name := range []string{"b", "é", "a", "B", "a.", ".a", long} {
		made(t, f, 1, name, api.KFile)
	}
	all := []string{".a", "B", "a", "a.", "b", long, "é"}
	has(t, f, 1, all...)
	for from := -2; from < 10; from++ {
		for n := -2; n < 10; n++ {
			var want []string
			if from >= 0 && n >= 0 {
				want = all[min(from, 7):min(from+n, 7)]
			}
			if l, e := f.List(1, from, n); !slices.Equal(l, want) || e != api.OK {
				t.Errorf("List(1, %d, %d): %q %d, not %q", from, n, l, e, want)
			}
		}
	}
	for _, c := range [][2]int{{math.MaxInt, 1}, {1, math.MinInt}, {math.MinInt, 5}, {math.MaxInt, math.MaxInt}} {
		if l, e := f.List(1, c[0], c[1]); len(l) != 0 || e != api.OK {
			t.Errorf("List(1, %d, %d): %q %d", c[0], c[1], l, e)
		}
	}
	if l, e := f.List(1, 5, math.MaxInt); len(l) != 2 || e != api.OK {
		t.Errorf("%q %d", l, e)
	}
}

// P7.2: what List answers is new.
func TestListIsNew(t *testing.T) {
	f := varied(t)
	was := show(f)
	a, _ := f.List(1, 0, 3)
	b, _ := f.List(1, 0, 3)
	for i := range a[:cap(a)] {
		a[:cap(a)][i] = "changed"
	}
	if show(f) != was || !slices.Equal(b, []string{"a", "c", "f"}) {
		t.Errorf("%q", b)
	}
}

// P7.2: Within is of directories, and goes up through any number of them.
func TestWithin(t *testing.T) {
	f := varied(t)
	within := [][2]int{{1, 1}, {2, 2}, {3, 3}, {4, 4}, {8, 8}, {1, 2}, {1, 3}, {2, 3}, {1, 4}, {1, 8}, {2, 8}}
	numbers := append(odd, 1, 2, 3, 4, 5, 6, 7, 8, 9, 10, 11, 12, 13)
	for _, dir := range numbers {
		for _, ino := range numbers {
			if want := slices.Contains(within, [2]int{dir, ino}); f.Within(dir, ino) != want {
				t.Errorf("Within(%d, %d): %v", dir, ino, !want)
			}
		}
	}
}

// P7.2: Within goes along with what is renamed.
func TestWithinRenamed(t *testing.T) {
	f := varied(t)
	ok(t, f.Rename(1, "a", 4, "z"))
	for _, pair := range [][2]int{{4, 2}, {4, 3}, {1, 3}, {2, 3}, {4, 8}} {
		if !f.Within(pair[0], pair[1]) {
			t.Errorf("not Within(%d, %d)", pair[0], pair[1])
		}
	}
	ok(t, f.Rename(2, "b", 1, "b"))
	for _, pair := range [][2]int{{2, 3}, {4, 3}, {3, 2}, {2, 4}} {
		if f.Within(pair[0], pair[1]) {
			t.Errorf("Within(%d, %d)", pair[0], pair[1])
		}
	}
}

// P7.2: a directory without a link lies where it lay; where that is gone, it is within none but itself.
func TestWithinWithoutLink(t *testing.T) {
	f := newFS(t, 5, 0)
	made(t, f, 1, "a", api.KDir)
	made(t, f, 2, "b", api.KDir)
	ok(t, f.Hold(3))
	ok(t, f.Rmdir(2, "b"))
	if !f.Within(3, 3) || !f.Within(2, 3) || !f.Within(1, 3) || f.Within(3, 2) {
		t.Error("it does not lie where it lay")
	}
	ok(t, f.Rmdir(1, "a"))
	if !f.Within(3, 3) || f.Within(2, 3) || f.Within(1, 3) || f.Within(2, 2) || f.Within(0, 3) {
		t.Error("it lies in what is gone")
	}
	ok(t, f.Release(3))
	if f.Within(3, 3) || f.Within(2, 3) || f.Within(1, 3) {
		t.Error("what is gone lies somewhere")
	}
}

// P7.2: a long way up is gone to its end.
func TestWithinDeep(t *testing.T) {
	f := newFS(t, api.MaxInodes, 0)
	for ino := 1; ino < api.MaxInodes; ino++ {
		made(t, f, ino, "d", api.KDir)
		finds(t, f, ino+1, "..", ino)
	}
	for _, ino := range []int{1, 2, 100, 256} {
		if !f.Within(ino, 256) || !f.Within(1, ino) || ino != 256 && f.Within(256, ino) {
			t.Error(ino)
		}
	}
	sound(t, f)
	refuses(t, f, "all below itself", api.EINVAL, renaming(f, 1, "d", 256, "x"))
}

// P7.3: each kind is made, with the entry, one link and no hold; a directory lies in dir.
func TestCreate(t *testing.T) {
	for _, dir := range []int{1, 2, 3} {
		for _, kind := range kinds {
			f := newFS(t, 5, 1)
			made(t, f, 1, "a", api.KDir)
			made(t, f, 2, "b", api.KDir)
			if ino, e := f.Create(dir, "new", kind, targetOf(kind)); ino != 4 || e != api.OK {
				t.Fatalf("Create(%d, new, %d): %d %d", dir, kind, ino, e)
			}
			finds(t, f, dir, "new", 4)
			stat(t, f, 4, api.Stat{Kind: kind, Size: len(targetOf(kind)), Links: 1})
			if target, is := f.Target(4); target != targetOf(kind) || is != (kind == api.KSymlink) {
				t.Errorf("Target %q %v", target, is)
			}
			if kind == api.KDir {
				finds(t, f, 4, "..", dir)
				has(t, f, 4)
			}
			room(t, f, 1, 1)
			sound(t, f)
		}
	}
}

// P7.3: numbers rise, and none comes twice.
func TestCreateNumbers(t *testing.T) {
	f := newFS(t, 2, 0)
	for want := 2; want < 300; want++ {
		kind := kinds[want%4]
		if f.Next() != want {
			t.Fatalf("next %d, not %d", f.Next(), want)
		}
		if ino := made(t, f, 1, "x", kind); ino != want {
			t.Fatalf("made %d, not %d", ino, want)
		}
		if kind == api.KDir {
			ok(t, f.Rmdir(1, "x"))
		} else {
			ok(t, f.Unlink(1, "x"))
		}
		isGone(t, f, want)
	}
}

// P7.3: names that can't be, ahead of a wrong kind and of no room; odd ones that can.
func TestCreateNames(t *testing.T) {
	full := newFS(t, 1, 0)
	for _, f := range []*FS{varied(t), full} {
		for _, r := range refused {
			refuses(t, f, fmt.Sprintf("%.4q", r.name), r.e, creating(t, f, 1, r.name, api.KFile, ""))
			refuses(t, f, fmt.Sprintf("%.4q of a wrong kind", r.name), r.e, creating(t, f, 1, r.name, 99, "t"))
		}
	}
	f := newFS(t, 20, 0)
	for _, name := range []string{"...", ".a", "..a", " ", "\n", "\xff", "é", "\\", long} {
		finds(t, f, 1, name, made(t, f, 1, name, api.KFile))
	}
}

// P7.3: EEXIST, ahead of a wrong kind, of a full directory, of no room.
func TestCreateThere(t *testing.T) {
	f := varied(t)
	for _, name := range []string{"a", "c", "f", "l", "s"} {
		for _, kind := range append(kinds, wrongKinds...) {
			refuses(t, f, fmt.Sprintf("%s of kind %d", name, kind), api.EEXIST, creating(t, f, 1, name, kind, targetOf(kind)))
		}
		refuses(t, f, name+" with a wrong target", api.EEXIST, creating(t, f, 1, name, api.KSymlink, ""))
	}
	g := newFS(t, 2, 0)
	made(t, g, 1, "a", api.KFile)
	refuses(t, g, "no room", api.ENOSPC, creating(t, g, 1, "b", api.KFile, ""))
	refuses(t, g, "there, without room", api.EEXIST, creating(t, g, 1, "a", api.KFile, ""))
	h := newFS(t, 9, 0)
	made(t, h, 1, "a", api.KFile)
	fill(t, h, 1, api.MaxEntries)
	refuses(t, h, "there, in a full directory", api.EEXIST, creating(t, h, 1, "a", 99, "x"))
}

// P7.3: what inodes.Make tells of the kind and the target, ahead of a full directory, of no room; and no number is taken.
func TestCreateKinds(t *testing.T) {
	roomy, none, full := newFS(t, 5, 0), newFS(t, 1, 0), newFS(t, 9, 0)
	fill(t, full, 1, api.MaxEntries)
	for i, f := range []*FS{roomy, none, full} {
		for _, c := range refusedKinds {
			refuses(t, f, fmt.Sprintf("%d: kind %d, target %.4q", i, c.kind, c.target), c.e, creating(t, f, 1, "new", c.kind, c.target))
		}
	}
	for _, target := range []string{"t", "/", "..", strings.Repeat("t", api.MaxPath)} {
		f := newFS(t, 2, 0)
		if ino, e := f.Create(1, "l", api.KSymlink, target); ino != 2 || e != api.OK {
			t.Errorf("target %.4q: %d %d", target, ino, e)
		}
		if got, is := f.Target(2); got != target || !is {
			t.Errorf("target %.4q: %.4q %v", target, got, is)
		}
	}
}

// P7.3: exactly MaxEntries entries, not one more; of each kind; one that goes makes room.
func TestCreateFull(t *testing.T) {
	f := newFS(t, api.MaxInodes, 0)
	made(t, f, 1, "d", api.KDir)
	for i := range api.MaxEntries {
		made(t, f, 2, fmt.Sprint("n", i), kinds[i%4])
	}
	stat(t, f, 2, api.Stat{Kind: api.KDir, Size: 64, Links: 1})
	for _, kind := range kinds {
		refuses(t, f, fmt.Sprint("kind ", kind), api.ENOSPC, creating(t, f, 2, "more", kind, targetOf(kind)))
	}
	made(t, f, 1, "more", api.KFile)
	ok(t, f.Unlink(2, "n0"))
	made(t, f, 2, "more", api.KFile)
	refuses(t, f, "one more again", api.ENOSPC, creating(t, f, 2, "n0", api.KFile, ""))
	sound(t, f)
}

// P7.3: as many inodes as there is room for, not one more; one that goes makes room.
func TestCreateRoom(t *testing.T) {
	for _, n := range []int{2, 3, 9, api.MaxInodes} {
		f := newFS(t, n, 0)
		dir := 1
		for i := range n - 1 {
			if i%60 == 0 {
				dir = made(t, f, dir, "d", api.KDir)
			} else {
				made(t, f, dir, fmt.Sprint("n", i), kinds[i%4])
			}
		}
		room(t, f, 0, 0)
		for _, kind := range kinds {
			refuses(t, f, fmt.Sprint("kind ", kind), api.ENOSPC, creating(t, f, 1, "more", kind, targetOf(kind)))
		}
	}
	f := newFS(t, 2, 0)
	made(t, f, 1, "a", api.KFile)
	ok(t, f.Hold(2))
	ok(t, f.Unlink(1, "a"))
	refuses(t, f, "while it is held", api.ENOSPC, creating(t, f, 1, "b", api.KFile, ""))
	ok(t, f.Release(2))
	made(t, f, 1, "b", api.KDir)
}

// P7.4: Link gives one entry more, of all but directories, and of what has no link any more.
func TestLink(t *testing.T) {
	f := varied(t)
	ok(t, f.Link(3, "one", 5))
	ok(t, f.Link(1, "two", 5))
	ok(t, f.Link(4, "three", 6))
	ok(t, f.Link(4, "four", 7))
	ok(t, f.Link(1, "five", 9))
	for _, c := range []struct {
		dir  int
		name string
		ino  int
	}{{3, "one", 5}, {1, "two", 5}, {4, "three", 6}, {4, "four", 7}, {1, "five", 9}, {1, "f", 5}, {2, "g", 5}} {
		finds(t, f, c.dir, c.name, c.ino)
	}
	stat(t, f, 5, api.Stat{Kind: api.KFile, Size: 66, Links: 4, Blocks: 2})
	stat(t, f, 9, api.Stat{Kind: api.KFile, Size: 4, Links: 1, Holds: 1, Blocks: 1})
	sound(t, f)
	ok(t, f.Release(9))
	reads(t, f, 9, 0, 9, "kept")
	if f.Next() != 13 {
		t.Error("a link takes a number")
	}
}

// P7.4: the errors of Link, each ahead of those behind it.
func TestLinkErrors(t *testing.T) {
	f := varied(t)
	fill(t, f, 4, api.MaxEntries)
	for i := range api.MaxLinks - 1 {
		ok(t, f.Link([]int{1, 2, 3}[i%3], fmt.Sprint("k", i), 7))
	}
	stat(t, f, 7, api.Stat{Kind: api.KBound, Links: 32})
	for _, r := range refused {
		for _, ino := range []int{5, 7, 2, 8, 99} {
			refuses(t, f, fmt.Sprintf("%.4q of %d", r.name, ino), r.e, linking(f, 1, r.name, ino))
		}
	}
	for _, ino := range append(odd, 10, 11, f.Next()) {
		refuses(t, f, fmt.Sprint("none: ", ino), api.ENOENT, linking(f, 1, "new", ino))
		refuses(t, f, fmt.Sprint("none, there: ", ino), api.ENOENT, linking(f, 1, "a", ino))
		refuses(t, f, fmt.Sprint("none, full: ", ino), api.ENOENT, linking(f, 4, "new", ino))
	}
	for _, ino := range []int{1, 2, 3, 4, 8} {
		refuses(t, f, fmt.Sprint("a directory: ", ino), api.EPERM, linking(f, 1, "new", ino))
		refuses(t, f, fmt.Sprint("a directory, there: ", ino), api.EPERM, linking(f, 1, "f", ino))
		refuses(t, f, fmt.Sprint("a directory, full: ", ino), api.EPERM, linking(f, 4, "new", ino))
	}
	for _, ino := range []int{5, 6, 7, 9} { // 7 has all links
		refuses(t, f, fmt.Sprint("there: ", ino), api.EEXIST, linking(f, 1, "f", ino))
		refuses(t, f, fmt.Sprint("there, a directory: ", ino), api.EEXIST, linking(f, 1, "a", ino))
		refuses(t, f, fmt.Sprint("there, full: ", ino), api.EEXIST, linking(f, 4, "z000", ino))
	}
	refuses(t, f, "all links", api.EMLINK, linking(f, 1, "new", 7))
	refuses(t, f, "all links, full", api.EMLINK, linking(f, 4, "new", 7))
	refuses(t, f, "full", api.ENOSPC, linking(f, 4, "new", 5))
	sound(t, f)
}

// P7.4: exactly MaxLinks links, not one more; exactly MaxEntries entries, not one more.
func TestLinkBounds(t *testing.T) {
	f := newFS(t, 9, 0)
	made(t, f, 1, "x", api.KSymlink)
	for i := range api.MaxLinks - 1 {
		ok(t, f.Link(1, fmt.Sprint("x", i), 2))
		stat(t, f, 2, api.Stat{Kind: api.KSymlink, Size: 3, Links: i + 2})
	}
	refuses(t, f, "one link more", api.EMLINK, linking(f, 1, "more", 2))
	ok(t, f.Unlink(1, "x3"))
	ok(t, f.Link(1, "more", 2))
	refuses(t, f, "one link more again", api.EMLINK, linking(f, 1, "x3", 2))
	made(t, f, 1, "y", api.KFile)
	for i := range api.MaxEntries - api.MaxLinks - 2 {
		ok(t, f.Link(1, fmt.Sprint("y", i), 3))
	}
	stat(t, f, 1, api.Stat{Kind: api.KDir, Size: 63, Holds: 1})
	ok(t, f.Link(1, "last", 3))
	stat(t, f, 3, api.Stat{Kind: api.KFile, Links: 32})
	ok(t, f.Unlink(1, "x0"))
	made(t, f, 1, "x0", api.KDir)
	refuses(t, f, "one entry more", api.ENOSPC, linking(f, 1, "x3", 2))
	ok(t, f.Link(4, "x3", 2))
	sound(t, f)
}

// P7.4: Unlink takes the entry and its link; with the last one what is not held is gone.
func TestUnlink(t *testing.T) {
	for _, kind := range []int{api.KFile, api.KSymlink, api.KBound} {
		f := newFS(t, 4, 2)
		made(t, f, 1, "d", api.KDir)
		made(t, f, 1, "x", kind)
		ok(t, f.Link(2, "y", 3))
		if kind == api.KFile {
			ok(t, f.Write(3, 0, []byte("kept")))
		}
		ok(t, f.Unlink(1, "x"))
		misses(t, f, 1, "x", api.ENOENT)
		finds(t, f, 2, "y", 3)
		if st, _ := f.Stat(3); st.Links != 1 {
			t.Error(st)
		}
		sound(t, f)
		refuses(t, f, "a second time", api.ENOENT, unlinking(f, 1, "x"))
		ok(t, f.Unlink(2, "y"))
		isGone(t, f, 3)
		room(t, f, 2, 2)
		has(t, f, 2)
		sound(t, f)
	}
}

// P7.4: the errors of Unlink, in their order.
func TestUnlinkErrors(t *testing.T) {
	f := varied(t)
	for _, r := range refused {
		refuses(t, f, fmt.Sprintf("%.4q", r.name), r.e, unlinking(f, 1, r.name))
	}
	for _, name := range []string{"no", "b", "g", "d", "e", long} {
		refuses(t, f, name, api.ENOENT, unlinking(f, 1, name))
	}
	refuses(t, f, "a directory", api.EPERM, unlinking(f, 1, "c"))
	refuses(t, f, "a directory with entries", api.EPERM, unlinking(f, 1, "a"))
	refuses(t, f, "a directory below", api.EPERM, unlinking(f, 2, "b"))
}

// P7.4: Rmdir takes a directory without entries away; what is held stays, without a link.
func TestRmdir(t *testing.T) {
	f := newFS(t, 4, 0)
	made(t, f, 1, "a", api.KDir)
	made(t, f, 2, "b", api.KDir)
	made(t, f, 3, "f", api.KFile)
	refuses(t, f, "with a directory", api.ENOTEMPTY, removing(f, 1, "a"))
	refuses(t, f, "with a file", api.ENOTEMPTY, removing(f, 2, "b"))
	ok(t, f.Unlink(3, "f"))
	ok(t, f.Rmdir(2, "b"))
	isGone(t, f, 3)
	has(t, f, 2)
	sound(t, f)
	ok(t, f.Hold(2))
	ok(t, f.Rmdir(1, "a"))
	stat(t, f, 2, api.Stat{Kind: api.KDir, Holds: 1})
	has(t, f, 1)
	sound(t, f)
	room(t, f, 2, 0)
	ok(t, f.Release(2))
	room(t, f, 3, 0)
}

// P7.4: the errors of Rmdir, in their order.
func TestRmdirErrors(t *testing.T) {
	f := varied(t)
	for _, r := range refused {
		refuses(t, f, fmt.Sprintf("%.4q", r.name), r.e, removing(f, 1, r.name))
	}
	for _, name := range []string{"no", "b", "g", "d", "e", long} {
		refuses(t, f, name, api.ENOENT, removing(f, 1, name))
	}
	for _, name := range []string{"f", "l", "s"} { // f has bytes, l has a target
		refuses(t, f, name, api.ENOTDIR, removing(f, 1, name))
	}
	refuses(t, f, "a", api.ENOTEMPTY, removing(f, 1, "a"))
	refuses(t, f, "b", api.ENOTEMPTY, removing(f, 2, "b"))
	ok(t, f.Rmdir(1, "c"))
}

// P7.5: of each kind, within a directory and into another one: the entry moves, the inode is as it was.
func TestRename(t *testing.T) {
	for _, kind := range kinds {
		for _, to := range []int{1, 2, 3} {
			f := newFS(t, 5, 0)
			made(t, f, 1, "a", api.KDir)
			made(t, f, 2, "b", api.KDir)
			made(t, f, 1, "x", kind)
			ok(t, f.Rename(1, "x", to, "y"))
			misses(t, f, 1, "x", api.ENOENT)
			finds(t, f, to, "y", 4)
			stat(t, f, 4, api.Stat{Kind: kind, Size: len(targetOf(kind)), Links: 1})
			if kind == api.KDir {
				finds(t, f, 4, "..", to)
			}
			room(t, f, 1, 0)
			sound(t, f)
			if f.Next() != 5 {
				t.Error("a rename takes a number")
			}
		}
	}
}

// P7.5: a directory goes with all that is below it.
func TestRenameWithEntries(t *testing.T) {
	f := varied(t)
	ok(t, f.Rename(1, "a", 4, "a"))
	finds(t, f, 4, "a", 2)
	finds(t, f, 2, "..", 4)
	finds(t, f, 3, "..", 2)
	has(t, f, 2, "b", "g")
	has(t, f, 1, "c", "f", "l", "s")
	sound(t, f)
	ok(t, f.Rename(2, "b", 1, "a"))
	finds(t, f, 3, "..", 1)
	has(t, f, 3, "h")
	sound(t, f)
}

// P7.5: the errors of the directories and the names, in their order, ahead of all others.
func TestRenameErrors(t *testing.T) {
	f := varied(t)
	for d1, e1 := range noDirs() {
		for d2, e2 := range noDirs() {
			refuses(t, f, fmt.Sprint("both, ", d1, " and ", d2), e1, renaming(f, d1, "f", d2, "g"))
			refuses(t, f, fmt.Sprint("the second, ", d2), e2, renaming(f, 1, "", d2, ""))
		}
	}
	for _, r := range refused {
		for _, n2 := range append([]string{"f", "new"}, "", ".", long+"n", "a/b") {
			refuses(t, f, fmt.Sprintf("%.4q to %.4q", r.name, n2), r.e, renaming(f, 1, r.name, 2, n2))
		}
		for _, n1 := range []string{"f", "a", "no"} {
			refuses(t, f, fmt.Sprintf("%s to %.4q", n1, r.name), r.e, renaming(f, 1, n1, 2, r.name))
		}
	}
	for _, n2 := range []string{"a", "c", "f", "l", "new"} {
		refuses(t, f, "none to "+n2, api.ENOENT, renaming(f, 1, "no", 1, n2))
		refuses(t, f, "none of that directory to "+n2, api.ENOENT, renaming(f, 1, "g", 1, n2))
	}
	refuses(t, f, "none to itself", api.ENOENT, renaming(f, 1, "no", 1, "no"))
}

// P7.5: onto itself, and onto another name of the same inode, nothing is done.
func TestRenameSame(t *testing.T) {
	f := varied(t)
	for _, name := range []string{"a", "c", "f", "l", "s"} {
		refuses(t, f, name+" onto itself", api.OK, renaming(f, 1, name, 1, name))
	}
	refuses(t, f, "f onto g", api.OK, renaming(f, 1, "f", 2, "g"))
	refuses(t, f, "g onto f", api.OK, renaming(f, 2, "g", 1, "f"))
	ok(t, f.Link(1, "f2", 5))
	refuses(t, f, "f onto f2", api.OK, renaming(f, 1, "f", 1, "f2"))
	fill(t, f, 2, api.MaxEntries)
	refuses(t, f, "f onto g in a full directory", api.OK, renaming(f, 1, "f", 2, "g"))
}

// P7.5: a directory goes neither into itself nor below itself, whatever is there.
func TestRenameBelowItself(t *testing.T) {
	f := varied(t)
	made(t, f, 3, "deep", api.KDir) // 13
	for _, d2 := range []int{2, 3, 13} {
		for _, n2 := range []string{"new", "b", "g", "h", "deep"} {
			refuses(t, f, fmt.Sprint("into ", d2, " as ", n2), api.EINVAL, renaming(f, 1, "a", d2, n2))
		}
	}
	refuses(t, f, "from below the root into one below", api.EINVAL, renaming(f, 2, "b", 13, "new"))
	ok(t, f.Rename(1, "a", 4, "new"))
	refuses(t, f, "a directory into one of which it is below", api.EINVAL, renaming(f, 1, "c", 2, "new"))
	ok(t, f.Rename(2, "b", 1, "b"))
	ok(t, f.Rename(4, "new", 3, "new"))
	sound(t, f)
}

// P7.5: EINVAL of a directory below itself is told ahead of a full directory.
func TestRenameBelowItselfFull(t *testing.T) {
	f := newFS(t, 9, 0)
	made(t, f, 1, "a", api.KDir)
	fill(t, f, 2, api.MaxEntries)
	refuses(t, f, "into itself", api.EINVAL, renaming(f, 1, "a", 2, "new"))
	refuses(t, f, "onto a file in itself", api.EINVAL, renaming(f, 1, "a", 2, "z000"))
}

// P7.5: a directory onto what is none is ENOTDIR, onto one with entries ENOTEMPTY; what is none onto a directory EISDIR, with entries, too.
func TestRenameUnlike(t *testing.T) {
	f := varied(t)
	for _, n1 := range []string{"a", "c"} {
		for _, n2 := range []string{"f", "l", "s"} {
			refuses(t, f, n1+" onto "+n2, api.ENOTDIR, renaming(f, 1, n1, 1, n2))
		}
	}
	refuses(t, f, "c onto h", api.ENOTDIR, renaming(f, 1, "c", 3, "h"))
	refuses(t, f, "c onto a", api.ENOTEMPTY, renaming(f, 1, "c", 1, "a"))
	refuses(t, f, "c onto b", api.ENOTEMPTY, renaming(f, 1, "c", 2, "b"))
	refuses(t, f, "b onto a, in which it is", api.ENOTEMPTY, renaming(f, 2, "b", 1, "a"))
	for _, n1 := range []string{"f", "l", "s"} {
		refuses(t, f, n1+" onto c", api.EISDIR, renaming(f, 1, n1, 1, "c"))
		refuses(t, f, n1+" onto a", api.EISDIR, renaming(f, 1, n1, 1, "a"))
		refuses(t, f, n1+" onto b", api.EISDIR, renaming(f, 1, n1, 2, "b"))
	}
	refuses(t, f, "g onto a, in which it is", api.EISDIR, renaming(f, 2, "g", 1, "a"))
}

// P7.5: onto a directory without entries: that is gone, or stays without a link, if it is held.
func TestRenameOntoDirectory(t *testing.T) {
	for _, held := range []bool{false, true} {
		f := varied(t)
		if held {
			ok(t, f.Hold(4))
		}
		ok(t, f.Rename(2, "b", 1, "c"))
		finds(t, f, 1, "c", 3)
		finds(t, f, 3, "..", 1)
		misses(t, f, 2, "b", api.ENOENT)
		misses(t, f, 4, ".", api.ENOENT)
		sound(t, f)
		if !held {
			isGone(t, f, 4)
			continue
		}
		stat(t, f, 4, api.Stat{Kind: api.KDir, Holds: 1})
		ok(t, f.Release(4))
		isGone(t, f, 4)
	}
}

// P7.5: onto a file: that has lost a link, and is gone with the last one.
func TestRenameOntoFile(t *testing.T) {
	f := varied(t)
	ok(t, f.Rename(3, "h", 1, "f"))
	finds(t, f, 1, "f", 12)
	has(t, f, 3)
	stat(t, f, 5, api.Stat{Kind: api.KFile, Size: 66, Links: 1, Blocks: 2})
	stat(t, f, 12, api.Stat{Kind: api.KFile, Links: 1})
	sound(t, f)
	room(t, f, 4, 3)
	ok(t, f.Rename(1, "l", 2, "g"))
	isGone(t, f, 5)
	room(t, f, 5, 5)
	finds(t, f, 2, "g", 6)
	ok(t, f.Rename(1, "s", 1, "f"))
	isGone(t, f, 12)
	finds(t, f, 1, "f", 7)
	has(t, f, 1, "a", "c", "f")
	sound(t, f)
}

// P7.5: one of several names of an inode moves; the others stay, and it has as many links, MaxLinks of them, too.
func TestRenameOneOfManyNames(t *testing.T) {
	f := varied(t)
	for i := range api.MaxLinks - 2 {
		ok(t, f.Link(4, fmt.Sprint("k", i), 5))
	}
	ok(t, f.Rename(4, "k3", 3, "new"))
	stat(t, f, 5, api.Stat{Kind: api.KFile, Size: 66, Links: 32, Blocks: 2})
	ok(t, f.Rename(3, "new", 3, "h"))
	isGone(t, f, 12)
	stat(t, f, 5, api.Stat{Kind: api.KFile, Size: 66, Links: 32, Blocks: 2})
	finds(t, f, 1, "f", 5)
	finds(t, f, 2, "g", 5)
	sound(t, f)
}

// P7.5: in a full directory a name is given another one, or takes the place of one; into it only what takes a place goes.
func TestRenameFull(t *testing.T) {
	f := newFS(t, 20, 0)
	made(t, f, 1, "full", api.KDir)
	made(t, f, 2, "dir", api.KDir)
	fill(t, f, 2, api.MaxEntries)
	made(t, f, 1, "x", api.KFile)
	made(t, f, 1, "d", api.KDir)
	x, _ := f.Lookup(1, "x")
	refuses(t, f, "a file into it", api.ENOSPC, renaming(f, 1, "x", 2, "new"))
	refuses(t, f, "a directory into it", api.ENOSPC, renaming(f, 1, "d", 2, "new"))
	ok(t, f.Rename(2, "z005", 2, "new"))
	ok(t, f.Rename(2, "dir", 2, "aaa"))
	stat(t, f, 2, api.Stat{Kind: api.KDir, Size: 64, Links: 1})
	finds(t, f, 3, "..", 2)
	sound(t, f)
	ok(t, f.Rename(1, "x", 2, "z001"))
	finds(t, f, 2, "z001", x)
	ok(t, f.Rename(1, "d", 2, "aaa"))
	isGone(t, f, 3)
	stat(t, f, 2, api.Stat{Kind: api.KDir, Size: 64, Links: 1})
	has(t, f, 1, "full")
	ok(t, f.Rename(2, "z000", 1, "out"))
	ok(t, f.Rename(1, "out", 2, "in"))
	made(t, f, 1, "y", api.KFile)
	refuses(t, f, "one more", api.ENOSPC, renaming(f, 1, "y", 2, "y"))
	ok(t, f.Rename(2, "in", 2, "z001")) // both names in one directory: it has one entry less
	stat(t, f, 2, api.Stat{Kind: api.KDir, Size: 63, Links: 1})
	ok(t, f.Rename(1, "y", 2, "y"))
	sound(t, f)
}

// P7.6: all of every inode is told, by the numbers.
func TestDump(t *testing.T) {
	f := varied(t)
	want := []api.Inode{
		{Ino: 1, Kind: api.KDir, Holds: 1, Parent: 1, Names: []string{"a", "c", "f", "l", "s"}, Inos: []int{2, 4, 5, 6, 7}},
		{Ino: 2, Kind: api.KDir, Links: 1, Parent: 1, Names: []string{"b", "g"}, Inos: []int{3, 5}},
		{Ino: 3, Kind: api.KDir, Links: 1, Parent: 2, Names: []string{"h"}, Inos: []int{12}},
		{Ino: 4, Kind: api.KDir, Links: 1, Parent: 1},
		{Ino: 5, Kind: api.KFile, Links: 2, Text: strings.Repeat("\x00", 62) + "four", Blocks: 2},
		{Ino: 6, Kind: api.KSymlink, Links: 1, Text: "a/b"},
		{Ino: 7, Kind: api.KBound, Links: 1},
		{Ino: 8, Kind: api.KDir, Holds: 1, Parent: 2},
		{Ino: 9, Kind: api.KFile, Holds: 1, Text: "kept", Blocks: 1},
		{Ino: 12, Kind: api.KFile, Links: 1},
	}
	got := f.Dump()
	if len(got) != len(want) {
		t.Fatalf("%d inodes, not %d", len(got), len(want))
	}
	for i := range want {
		if a, b := fmt.Sprintf("%+v", got[i]), fmt.Sprintf("%+v", want[i]); a != b {
			t.Errorf("%s, not\n%s", a, b)
		}
	}
}

// P7.6: all bytes of the greatest file are told; a file that was cut tells what it has.
func TestDumpText(t *testing.T) {
	f := newFS(t, 2, 2)
	made(t, f, 1, "f", api.KFile)
	ok(t, f.Write(2, api.MaxFile-1, []byte("z")))
	ok(t, f.Write(2, 0, []byte("abc")))
	if x := f.Dump()[1]; len(x.Text) != api.MaxFile || !strings.HasPrefix(x.Text, "abc\x00") || !strings.HasSuffix(x.Text, "\x00z") || x.Blocks != 2 {
		t.Errorf("%d bytes, %d blocks", len(x.Text), x.Blocks)
	}
	ok(t, f.Truncate(2, 2))
	if x := f.Dump()[1]; x.Text != "ab" || x.Blocks != 1 {
		t.Errorf("%+v", x)
	}
}

// P7.6: where a directory lies goes along with renames; entries are in the order of their bytes, whenever they came.
func TestDumpParents(t *testing.T) {
	f := varied(t)
	ok(t, f.Rename(1, "a", 4, "z"))
	ok(t, f.Rename(1, "f", 3, "f"))
	ok(t, f.Rename(1, "l", 1, "l2"))
	made(t, f, 4, "é", api.KDir)
	made(t, f, 4, "Z", api.KDir)
	for _, x := range f.Dump() {
		parent := map[int]int{1: 1, 2: 4, 3: 2, 4: 1, 8: 2, 13: 4, 14: 4}[x.Ino]
		if x.Parent != parent {
			t.Errorf("%d lies in %d, not %d", x.Ino, x.Parent, parent)
		}
		if x.Ino == 4 && (!slices.Equal(x.Names, []string{"Z", "z", "é"}) || !slices.Equal(x.Inos, []int{14, 2, 13})) {
			t.Errorf("%+v", x)
		}
	}
}

// P7.6: what Dump answers is new, and no two lists of it share memory.
func TestDumpIsNew(t *testing.T) {
	f := varied(t)
	was := asks(f)
	a, b := f.Dump(), f.Dump()
	for i := range a {
		names, inos := a[i].Names, a[i].Inos
		for k := range names[:cap(names)] {
			names[:cap(names)][k] = "changed"
		}
		for k := range inos[:cap(inos)] {
			inos[:cap(inos)][k] = -7
		}
		if i+1 < len(a) && fmt.Sprint(a[i+1]) != fmt.Sprint(b[i+1]) {
			t.Errorf("%d shares with %d", a[i+1].Ino, a[i].Ino)
		}
		a[i] = api.Inode{}
	}
	if asks(f) != was {
		t.Error("the file system is changed")
	}
	if now := fmt.Sprint(f.Dump()); now != fmt.Sprint(b) {
		t.Errorf("%s, not %v", now, b)
	}
}

// P7.7: where directories come and go, no more is kept of where they lie than there are.
func TestNothingIsKept(t *testing.T) {
	f := newFS(t, 4, 0)
	for range 50 {
		a := made(t, f, 1, "a", api.KDir)
		b := made(t, f, a, "b", api.KDir)
		ok(t, f.Hold(b))
		ok(t, f.Rmdir(a, "b"))
		ok(t, f.Release(b))
		made(t, f, 1, "c", api.KDir)
		ok(t, f.Rename(1, "a", 1, "c"))
		ok(t, f.Rmdir(1, "c"))
		if len(f.up) != 1 || f.up[1] != 1 {
			t.Fatal(f.up)
		}
	}
}

// P7.7: a directory can't be had below itself by several renames either.
func TestTreeStaysATree(t *testing.T) {
	f := newFS(t, 6, 0)
	made(t, f, 1, "a", api.KDir)
	made(t, f, 1, "b", api.KDir)
	ok(t, f.Rename(1, "a", 3, "a"))
	refuses(t, f, "b into a, which is in b", api.EINVAL, renaming(f, 1, "b", 2, "b"))
	ok(t, f.Rename(3, "a", 1, "a"))
	ok(t, f.Rename(1, "b", 2, "b"))
	refuses(t, f, "a into b, which is in a", api.EINVAL, renaming(f, 1, "a", 3, "a"))
	sound(t, f)
	finds(t, f, 3, "..", 2)
	finds(t, f, 2, "..", 1)
}

// P7.8: an inode with entries in several directories has as many links, whatever is done with them.
func TestLinksAreEntries(t *testing.T) {
	f := varied(t)
	for _, call := range []func() api.Errno{
		linking(f, 3, "k1", 5), linking(f, 4, "k2", 5), renaming(f, 3, "k1", 4, "k3"), unlinking(f, 1, "f"),
		renaming(f, 3, "h", 4, "k2"), renaming(f, 4, "k3", 4, "k2"), unlinking(f, 2, "g"), linking(f, 1, "k4", 9),
	} {
		ok(t, call())
		sound(t, f)
	}
	stat(t, f, 5, api.Stat{Kind: api.KFile, Size: 66, Links: 1, Blocks: 2})
	isGone(t, f, 12)
}

// Of a nil file system: EINVAL, none, 0, false, ahead of every other error.
func TestNil(t *testing.T) {
	var f *FS
	for _, name := range []string{"a", ".", "..", "", "a/b", long + "n"} {
		for _, dir := range []int{1, 2, 0, -1, math.MaxInt} {
			misses(t, f, dir, name, api.EINVAL)
			for _, call := range []func() api.Errno{
				creating(t, f, dir, name, api.KFile, ""), creating(t, f, dir, name, 99, ""), creating(t, f, dir, name, api.KSymlink, ""),
				linking(f, dir, name, 1), unlinking(f, dir, name), removing(f, dir, name), renaming(f, dir, name, 1, "b"), renaming(f, 1, "a", dir, name),
			} {
				if e := call(); e != api.EINVAL {
					t.Errorf("%d", e)
				}
			}
		}
	}
	for _, ino := range []int{1, 2, 0, -1, math.MinInt} {
		for _, e := range []api.Errno{f.Hold(ino), f.Release(ino), f.Write(ino, 0, nil), f.Write(ino, -1, []byte("x")), f.Truncate(ino, 0)} {
			if e != api.EINVAL {
				t.Errorf("of %d: %d", ino, e)
			}
		}
		if st, e := f.Stat(ino); st != (api.Stat{}) || e != api.EINVAL {
			t.Errorf("Stat: %v %d", st, e)
		}
		if target, is := f.Target(ino); target != "" || is {
			t.Errorf("Target: %q %v", target, is)
		}
		if b, e := f.Read(ino, 0, 5); len(b) != 0 || e != api.EINVAL {
			t.Errorf("Read: %q %d", b, e)
		}
		if l, e := f.List(ino, 0, 5); len(l) != 0 || e != api.EINVAL {
			t.Errorf("List: %q %d", l, e)
		}
		if f.Within(ino, ino) || f.Within(1, ino) {
			t.Error("Within")
		}
	}
	room(t, f, 0, 0)
	if f.Next() != 0 || len(f.Dump()) != 0 {
		t.Error(f.Next(), f.Dump())
	}
}

// The zero value is not made by New: what it answers is open, but nothing panics.
func TestZeroValue(t *testing.T) {
	f := &FS{}
	f.Create(1, "a", api.KDir, "")
	f.Lookup(1, "..")
	f.Link(1, "a", 1)
	f.Unlink(1, "a")
	f.Rmdir(1, "a")
	f.Rename(1, "a", 1, "b")
	f.List(1, 0, 1)
	f.Within(1, 1)
	f.Hold(1)
	f.Release(1)
	f.Read(1, 0, 1)
	f.Write(1, 0, []byte("x"))
	f.Truncate(1, 0)
	asks(f)
}

// The chapter's example.
func TestExample(t *testing.T) {
	f := newFS(t, 4, 4)
	if ino, e := f.Create(1, "a", api.KDir, ""); ino != 2 || e != api.OK {
		t.Error(ino, e)
	}
	refuses(t, f, "a into itself", api.EINVAL, renaming(f, 1, "a", 2, "b"))
}
