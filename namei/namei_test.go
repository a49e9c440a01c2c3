package namei

import (
	"fmt"
	"math"
	"slices"
	"strings"
	"testing"

	"purlieu/api"
	"purlieu/memfs"
)

// The ways in which a path is gone.
var (
	plainly = api.How{}
	beneath = api.How{Beneath: true}
	follow  = api.How{Follow: true}
	parent  = api.How{Parent: true}
	below   = api.How{Beneath: true, Follow: true}
	fresh   = api.How{Follow: true, Parent: true}
	every   = api.How{Beneath: true, Follow: true, Parent: true}
)

// hows answers all ways in which a path is gone.
func hows() []api.How {
	var all []api.How
	for _, b := range []bool{false, true} {
		for _, f := range []bool{false, true} {
			for _, p := range []bool{false, true} {
				all = append(all, api.How{Beneath: b, Follow: f, Parent: p})
			}
		}
	}
	return all
}

// odd are numbers that no inode ever has.
var odd = []int{0, -1, -2, 1 << 40, math.MinInt, math.MaxInt}

// long is a name of as many bytes as a name may have; longer is no name, but a part that a target may have.
var (
	long   = strings.Repeat("n", api.MaxName)
	longer = long + "n"
)

// refused are texts that path.Parse refuses, with what it says of them.
var refused = []struct {
	s string
	e api.Errno
}{
	{"", api.ENOENT},
	{strings.Repeat("a/", api.MaxPath/2) + "a", api.ENAMETOOLONG},
	{strings.Repeat("/", api.MaxPath+1), api.ENAMETOOLONG},
	{strings.Repeat("\x00", api.MaxPath+1), api.ENAMETOOLONG},
	{"\x00", api.EINVAL},
	{"a/\x00", api.EINVAL},
	{"/a\x00", api.EINVAL},
	{"\x00" + longer, api.EINVAL},
	{longer, api.ENAMETOOLONG},
	{"a/" + longer + "/b", api.ENAMETOOLONG},
	{"/" + longer, api.ENAMETOOLONG},
	{"../" + longer, api.ENAMETOOLONG},
}

// line is an entry that is made.
type line struct {
	dir    int
	name   string
	kind   int
	target string
}

// newFS answers a new file system with those entries: their inodes have the numbers from 2 on.
func newFS(t *testing.T, lines ...line) *memfs.FS {
	t.Helper()
	f := memfs.New(api.MaxInodes, 4)
	for _, l := range lines {
		made(t, f, l.dir, l.name, l.kind, l.target)
	}
	return f
}

// made makes an inode, which must go well.
func made(t *testing.T, f *memfs.FS, dir int, name string, kind int, target string) int {
	t.Helper()
	ino, e := f.Create(dir, name, kind, target)
	if e != api.OK {
		t.Fatalf("Create(%d, %q, %d, %q): %d", dir, name, kind, target, e)
	}
	return ino
}

// ok says that a call went well.
func ok(t *testing.T, e api.Errno) {
	t.Helper()
	if e != api.OK {
		t.Fatalf("error %d", e)
	}
}

// The numbers of what varied has.
const (
	dirA     = iota + 2 // /a
	dirB                // /a/b
	fileF               // /a/b/f, and /c/f2
	dirC                // /c
	boundS              // /s
	fileG               // /g
	linkB               // /l: a/b
	linkF               // /lf: a/b/f
	linkBS              // /ls: a/b/
	linkGS              // /gs: g/
	absB                // /abs: /a/b
	absBS               // /a/abs: /a/b/
	top                 // /top: /
	upC                 // /a/up: ../c
	selfL               // /self: self
	linkX               // /x: y
	linkY               // /y: x
	lost                // /lost: nothing
	lostS               // /losts: nothing/
	badL                // /bad: a part that is too long
	badAbs              // /badabs: likewise, absolute
	turns               // /a/turns: b/./../b
	dotL                // /dot: .
	dotsL               // /dots: ..
	deep                // /deep: lost/q
	inF                 // /a/inf: b/f
	heldDir             // held, without a link
	heldFile            // likewise
	goneDir             // not there any more
	goneFile            // likewise
)

// varied answers a file system with all that a path may come to.
func varied(t *testing.T) *memfs.FS {
	t.Helper()
	f := newFS(t,
		line{1, "a", api.KDir, ""}, line{dirA, "b", api.KDir, ""}, line{dirB, "f", api.KFile, ""},
		line{1, "c", api.KDir, ""}, line{1, "s", api.KBound, ""}, line{1, "g", api.KFile, ""},
		line{1, "l", api.KSymlink, "a/b"}, line{1, "lf", api.KSymlink, "a/b/f"},
		line{1, "ls", api.KSymlink, "a/b/"}, line{1, "gs", api.KSymlink, "g/"},
		line{1, "abs", api.KSymlink, "/a/b"}, line{dirA, "abs", api.KSymlink, "/a/b/"},
		line{1, "top", api.KSymlink, "/"}, line{dirA, "up", api.KSymlink, "../c"},
		line{1, "self", api.KSymlink, "self"}, line{1, "x", api.KSymlink, "y"}, line{1, "y", api.KSymlink, "x"},
		line{1, "lost", api.KSymlink, "nothing"}, line{1, "losts", api.KSymlink, "nothing/"},
		line{1, "bad", api.KSymlink, "a/" + longer}, line{1, "badabs", api.KSymlink, "/" + longer},
		line{dirA, "turns", api.KSymlink, "b/./../b"}, line{1, "dot", api.KSymlink, "."}, line{1, "dots", api.KSymlink, ".."},
		line{1, "deep", api.KSymlink, "lost/q"}, line{dirA, "inf", api.KSymlink, "b/f"},
		line{1, "h", api.KDir, ""}, line{1, "i", api.KFile, ""}, line{1, "j", api.KDir, ""}, line{1, "k", api.KFile, ""},
	)
	ok(t, f.Link(dirC, "f2", fileF))
	ok(t, f.Hold(heldDir))
	ok(t, f.Hold(heldFile))
	ok(t, f.Rmdir(1, "h"))
	ok(t, f.Unlink(1, "i"))
	ok(t, f.Rmdir(1, "j"))
	ok(t, f.Unlink(1, "k"))
	if l := f.Next(); l != goneFile+1 {
		t.Fatalf("the next inode is %d", l)
	}
	return f
}

// noDirs are numbers of varied that are none to go into, with the errors of them.
func noDirs() map[int]api.Errno {
	no := map[int]api.Errno{
		fileF: api.ENOTDIR, boundS: api.ENOTDIR, fileG: api.ENOTDIR, linkB: api.ENOTDIR, top: api.ENOTDIR, heldFile: api.ENOTDIR,
		heldDir: api.ENOENT, goneDir: api.ENOENT, goneFile: api.ENOENT, goneFile + 1: api.ENOENT,
	}
	for _, ino := range odd {
		no[ino] = api.ENOENT
	}
	return no
}

// finds says what a path leads to.
func finds(t *testing.T, f *memfs.FS, start int, s string, how api.How, want api.Found) {
	t.Helper()
	if got, e := Walk(f, start, s, how); got != want || e != api.OK {
		t.Errorf("Walk(%d, %q, %+v): %+v %d, not %+v", start, s, how, got, e, want)
	}
}

// fails says which error a path tells, with nothing found beside it.
func fails(t *testing.T, f *memfs.FS, start int, s string, how api.How, want api.Errno) {
	t.Helper()
	if got, e := Walk(f, start, s, how); got != (api.Found{}) || e != want {
		t.Errorf("Walk(%d, %q, %+v): %+v %d, not %d", start, s, how, got, e, want)
	}
}

// reaches says what is below a directory.
func reaches(t *testing.T, f *memfs.FS, dir int, want ...int) {
	t.Helper()
	if got := Reach(f, dir); !slices.Equal(got, want) {
		t.Errorf("Reach(%d): %v, not %v", dir, got, want)
	}
}

// show writes all that f has.
func show(f *memfs.FS) string {
	inodes, blocks := f.Room()
	return fmt.Sprintf("next %d, room %d %d, %+v", f.Next(), inodes, blocks, f.Dump())
}

// entry answers a found that names an entry; itself one that names a directory itself.
func entry(dir int, name string, ino, steps int) api.Found {
	return api.Found{Dir: dir, Name: name, Ino: ino, Steps: steps}
}

func itself(dir, steps int) api.Found { return api.Found{Dir: dir, Ino: dir, Steps: steps} }

// slashed answers the found with a / at the path's end.
func slashed(x api.Found) api.Found { x.Slash = true; return x }

// P8.1: a relative path is gone from start, an absolute one from the root, wherever start is.
func TestFromWhere(t *testing.T) {
	f := varied(t)
	for _, how := range hows() {
		finds(t, f, 1, "a", how, entry(1, "a", dirA, 1))
		finds(t, f, dirA, "b", how, entry(dirA, "b", dirB, 1))
		finds(t, f, dirB, "f", how, entry(dirB, "f", fileF, 1))
		finds(t, f, 1, "a/b/f", how, entry(dirB, "f", fileF, 3))
		if how.Beneath {
			continue
		}
		for _, start := range []int{1, dirA, dirB, dirC, fileF, linkB, heldDir, heldFile, goneDir, goneFile, 0, -1, math.MinInt, math.MaxInt} {
			finds(t, f, start, "/a", how, entry(1, "a", dirA, 1))
			finds(t, f, start, "/a/b/f", how, entry(dirB, "f", fileF, 3))
			finds(t, f, start, "//a//b//f", how, entry(dirB, "f", fileF, 3))
			finds(t, f, start, "/a/b/", how, slashed(entry(dirA, "b", dirB, 2)))
		}
	}
}

// P8.1, P8.3: where no part is left, it is the root that is found, without a step, and no / is told.
func TestRootPath(t *testing.T) {
	f := varied(t)
	for _, s := range []string{"/", "//", "///", strings.Repeat("/", api.MaxPath)} {
		for _, how := range hows() {
			for _, start := range []int{1, dirB, fileF, heldDir, goneDir, 0, -1} {
				if how.Beneath {
					fails(t, f, start, s, how, api.ENOTCAPABLE)
				} else {
					finds(t, f, start, s, how, itself(1, 0))
				}
			}
		}
	}
}

// P8.1: with Beneath nothing goes up, not even what would stay below start.
func TestBeneathUp(t *testing.T) {
	f := varied(t)
	for _, how := range []api.How{beneath, below, every, {Beneath: true, Parent: true}} {
		for _, s := range []string{"..", "../", "../a", "b/..", "b/../", "b/../b", "b/../b/f", "./..", "b/./..", "../..", "turns/f", "turns/"} {
			fails(t, f, dirA, s, how, api.ENOTCAPABLE)
		}
		fails(t, f, 1, "..", how, api.ENOTCAPABLE) // though the root lies in itself
		finds(t, f, 1, "...", api.How{Beneath: true, Parent: true}, entry(1, "...", 0, 1))
	}
	finds(t, f, dirA, "b/../b/f", follow, entry(dirB, "f", fileF, 4))
	finds(t, f, dirA, "turns/f", plainly, entry(dirB, "f", fileF, 6))
}

// P8.1: with Beneath no symlink that is gone through is absolute, wherever it leads; one that is not gone through may be.
func TestBeneathTargets(t *testing.T) {
	f := varied(t)
	for _, s := range []string{"abs/f", "abs/", "top/a", "top/", "a/abs/f", "a/abs/", "dot/abs/"} {
		fails(t, f, 1, s, beneath, api.ENOTCAPABLE)
		fails(t, f, 1, s, every, api.ENOTCAPABLE)
	}
	for _, s := range []string{"abs", "top", "a/abs"} {
		fails(t, f, 1, s, below, api.ENOTCAPABLE)
	}
	finds(t, f, 1, "abs", beneath, entry(1, "abs", absB, 1))
	finds(t, f, 1, "top", beneath, entry(1, "top", top, 1))
	finds(t, f, 1, "l/f", beneath, entry(dirB, "f", fileF, 4))
	finds(t, f, 1, "lf", below, entry(dirB, "f", fileF, 4))
	fails(t, f, dirA, "up/", beneath, api.ENOTCAPABLE)
	fails(t, f, dirA, "up", below, api.ENOTCAPABLE)
	finds(t, f, dirA, "up", beneath, entry(dirA, "up", upC, 1))
	fails(t, f, dirA, "up/f2", beneath, api.ENOTCAPABLE)
	finds(t, f, dirA, "up/f2", plainly, entry(dirC, "f2", fileF, 4))
}

// P8.2: a path that Parse refuses tells Parse's error, ahead of all else.
func TestRefusedPaths(t *testing.T) {
	f := varied(t)
	for _, c := range refused {
		for _, how := range hows() {
			for _, start := range []int{1, dirB, fileF, heldDir, goneDir, 0, -1} {
				fails(t, f, start, c.s, how, c.e)
			}
		}
	}
	most := strings.Repeat("./", api.MaxPath/2-1) + "a/"
	finds(t, f, 1, most, plainly, slashed(entry(1, "a", dirA, api.MaxPath/2)))
	finds(t, f, 1, long, parent, entry(1, long, 0, 1))
	fails(t, f, 1, long, follow, api.ENOENT)
}

// P8.2: an absolute path with Beneath is ENOTCAPABLE, ahead of what is wrong with start and with what is on the way.
func TestAbsoluteBeneath(t *testing.T) {
	f := varied(t)
	for _, start := range []int{1, dirA, fileF, heldDir, goneDir, 0, -1} {
		for _, s := range []string{"/", "/a", "/a/b/f", "/nothing/q", "/g/q", "/self/q", "/bad/q", "/..", "/."} {
			fails(t, f, start, s, beneath, api.ENOTCAPABLE)
			fails(t, f, start, s, every, api.ENOTCAPABLE)
		}
	}
}

// P8.2: of a start that is none to go into its error is told, whatever the part is, and with Parent too.
func TestWrongStarts(t *testing.T) {
	f := varied(t)
	for start, e := range noDirs() {
		for _, s := range []string{".", "..", "./", "../", "a", "f", "a/b", "nothing", "nothing/", "../a", "../.."} {
			for _, how := range hows() {
				fails(t, f, start, s, how, e)
			}
		}
	}
}

// P8.2: what is no directory is not gone into; its error is told ahead of that of the part, ".." with Beneath included.
func TestThroughNoDirectory(t *testing.T) {
	f := varied(t)
	for _, how := range hows() {
		for _, s := range []string{"g/.", "g/..", "g/q", "g/./", "g/../", "s/q", "s/..", "a/b/f/q", "a/b/f/.", "lf/q", "lf/..", "a/inf/q", "a/inf/..", "g/q/r", "g//."} {
			fails(t, f, 1, s, how, api.ENOTDIR)
		}
		for _, s := range []string{"nothing/q", "nothing/..", "nothing/.", "a/nothing/q", "a/b/nothing/../f", "lost/q", "lost/..", "losts/q", "deep/q"} {
			fails(t, f, 1, s, how, api.ENOENT)
		}
	}
	fails(t, f, 1, "../nothing/q", beneath, api.ENOTCAPABLE)
	fails(t, f, 1, "../g/q", beneath, api.ENOTCAPABLE)
	fails(t, f, 1, "nothing/..", beneath, api.ENOENT)
}

// P8.2: ENOENT of the last part is none with Parent: it is found with no inode, a / behind it or not.
func TestParent(t *testing.T) {
	f := varied(t)
	for _, how := range hows() {
		for _, c := range []struct {
			start int
			s     string
			want  api.Found
		}{
			{1, "q", entry(1, "q", 0, 1)},
			{1, "./q", entry(1, "q", 0, 2)},
			{1, "q/", slashed(entry(1, "q", 0, 1))},
			{1, "q//", slashed(entry(1, "q", 0, 1))},
			{1, "a/b/q", entry(dirB, "q", 0, 3)},
			{dirA, "b/q/", slashed(entry(dirB, "q", 0, 2))},
			{dirC, "f", entry(dirC, "f", 0, 1)},
			{1, "l/q", entry(dirB, "q", 0, 4)},
			{1, long, entry(1, long, 0, 1)},
			{1, "losts/", slashed(entry(1, "nothing", 0, 2))},
			{1, "lost/", slashed(entry(1, "nothing", 0, 2))},
		} {
			if how.Parent {
				finds(t, f, c.start, c.s, how, c.want)
			} else {
				fails(t, f, c.start, c.s, how, api.ENOENT)
			}
		}
		fails(t, f, 1, "q/r", how, api.ENOENT)
		fails(t, f, 1, "q/.", how, api.ENOENT)
		fails(t, f, 1, "a/q/r/", how, api.ENOENT)
	}
	finds(t, f, 1, "a", parent, entry(1, "a", dirA, 1)) // what is there is found as it is
	finds(t, f, 1, "g", parent, entry(1, "g", fileG, 1))
	fails(t, f, 1, "g/", parent, api.ENOTDIR)
}

// P8.2: with Parent and Follow the last part is that of the target, in the directory to which that leads.
func TestParentOfTargets(t *testing.T) {
	f := varied(t)
	finds(t, f, 1, "lost", fresh, entry(1, "nothing", 0, 2))
	finds(t, f, 1, "losts", fresh, slashed(entry(1, "nothing", 0, 2)))
	finds(t, f, 1, "losts", every, slashed(entry(1, "nothing", 0, 2)))
	finds(t, f, 1, "lost", parent, entry(1, "lost", lost, 1))
	fails(t, f, 1, "lost", follow, api.ENOENT)
	fails(t, f, 1, "losts", follow, api.ENOENT)
	fails(t, f, 1, "deep", fresh, api.ENOENT) // of a part that is not the last one
	made(t, f, dirC, "out", api.KSymlink, "../a/b/new")
	finds(t, f, dirC, "out", fresh, entry(dirB, "new", 0, 5))
	finds(t, f, 1, "c/out/", parent, slashed(entry(dirB, "new", 0, 6)))
	fails(t, f, 1, "c/out/q", fresh, api.ENOENT)
	fails(t, f, 1, "c/out", every, api.ENOTCAPABLE)
}

// P8.2: of a directory that has lost its link no name may be made, though it is held, nor is it told where it lay.
func TestHeldDirectory(t *testing.T) {
	f := varied(t)
	for _, how := range hows() {
		for _, s := range []string{".", "..", "q", "q/", "./q"} {
			fails(t, f, heldDir, s, how, api.ENOENT)
		}
	}
	ino := made(t, f, dirA, "d", api.KDir, "")
	ok(t, f.Hold(ino))
	finds(t, f, ino, "q", parent, entry(ino, "q", 0, 1))
	finds(t, f, ino, "..", plainly, itself(dirA, 1))
	ok(t, f.Rename(dirA, "d", dirC, "d"))
	finds(t, f, ino, "..", plainly, itself(dirC, 1))
	ok(t, f.Rmdir(dirC, "d"))
	fails(t, f, ino, "q", parent, api.ENOENT)
	fails(t, f, ino, "..", plainly, api.ENOENT)
	fails(t, f, ino, "..", beneath, api.ENOENT)
	finds(t, f, ino, "/c", plainly, entry(1, "c", dirC, 1))
}

// P8.2: a symlink that is not the last part is gone through, however the path is gone.
func TestThroughSymlinks(t *testing.T) {
	f := varied(t)
	for _, how := range hows() {
		finds(t, f, 1, "l/f", how, entry(dirB, "f", fileF, 4))
		finds(t, f, 1, "ls/f", how, entry(dirB, "f", fileF, 4)) // the / of a target that is not the last is not the path's
		finds(t, f, 1, "l/.", how, itself(dirB, 4))
		finds(t, f, 1, "dot/dot/a", how, entry(1, "a", dirA, 5))
		fails(t, f, 1, "gs/q", how, api.ENOTDIR)
		fails(t, f, 1, "bad/q", how, api.ENAMETOOLONG)
		fails(t, f, 1, "badabs/q", how, api.ENAMETOOLONG) // ahead of ENOTCAPABLE
		if how.Beneath {
			continue
		}
		finds(t, f, 1, "l/..", how, itself(dirA, 4)) // from where the symlink leads to, not from where it lies
		finds(t, f, dirA, "up/f2", how, entry(dirC, "f2", fileF, 4))
		finds(t, f, dirA, "abs/f", how, entry(dirB, "f", fileF, 4))
		finds(t, f, 1, "top/a", how, entry(1, "a", dirA, 2))
		finds(t, f, dirA, "../dots/a", how, entry(1, "a", dirA, 4))
		finds(t, f, dirA, "up/../a/b/../turns/f", how, entry(dirB, "f", fileF, 13))
	}
}

// P8.2: a symlink that is the last part is gone through with Follow, or with a / behind it; else it is what is found.
func TestLastSymlinks(t *testing.T) {
	f := varied(t)
	for _, c := range []struct {
		start int
		s     string
		ino   int
		want  api.Found
	}{
		{1, "l", linkB, entry(dirA, "b", dirB, 3)},
		{1, "lf", linkF, entry(dirB, "f", fileF, 4)},
		{1, "ls", linkBS, slashed(entry(dirA, "b", dirB, 3))},
		{1, "abs", absB, entry(dirA, "b", dirB, 3)},
		{dirA, "abs", absBS, slashed(entry(dirA, "b", dirB, 3))},
		{1, "top", top, itself(1, 1)},
		{dirA, "up", upC, entry(1, "c", dirC, 3)},
		{dirA, "turns", turns, entry(dirA, "b", dirB, 5)},
		{1, "dot", dotL, itself(1, 2)},
		{1, "dots", dotsL, itself(1, 2)},
		{dirA, "inf", inF, entry(dirB, "f", fileF, 3)},
	} {
		finds(t, f, c.start, c.s, plainly, entry(c.start, c.s, c.ino, 1))
		finds(t, f, c.start, c.s, beneath, entry(c.start, c.s, c.ino, 1))
		finds(t, f, c.start, c.s, parent, entry(c.start, c.s, c.ino, 1))
		finds(t, f, c.start, c.s, follow, c.want)
		finds(t, f, c.start, c.s, fresh, c.want)
		for _, how := range []api.How{plainly, follow, parent, fresh} {
			if c.want.Ino == fileF {
				fails(t, f, c.start, c.s+"/", how, api.ENOTDIR)
			} else {
				finds(t, f, c.start, c.s+"/", how, slashed(c.want))
			}
		}
	}
}

// P8.2: the / at a target's end is the path's, if the symlink was the last part; so is that of a target's target.
func TestTargetsSlash(t *testing.T) {
	f := varied(t)
	fails(t, f, 1, "gs", follow, api.ENOTDIR)
	fails(t, f, 1, "gs", fresh, api.ENOTDIR)
	finds(t, f, 1, "gs", plainly, entry(1, "gs", linkGS, 1))
	fails(t, f, 1, "gs/", plainly, api.ENOTDIR)
	at := f.Next()
	made(t, f, 1, "m1", api.KSymlink, "ls")
	made(t, f, 1, "m2", api.KSymlink, "l/")
	made(t, f, 1, "m3", api.KSymlink, "lf/")
	made(t, f, 1, "m4", api.KSymlink, "dots/")
	made(t, f, 1, "m5", api.KSymlink, "top/")
	made(t, f, 1, "m6", api.KSymlink, "ls/f")
	finds(t, f, 1, "m1", follow, slashed(entry(dirA, "b", dirB, 4)))
	finds(t, f, 1, "m2", follow, slashed(entry(dirA, "b", dirB, 4))) // the / behind l stays behind a/b
	finds(t, f, 1, "m2/f", plainly, entry(dirB, "f", fileF, 5))
	fails(t, f, 1, "m3", follow, api.ENOTDIR)
	finds(t, f, 1, "m4", follow, slashed(itself(1, 3)))
	finds(t, f, 1, "m5", follow, slashed(itself(1, 2)))
	finds(t, f, 1, "m6", follow, entry(dirB, "f", fileF, 5))
	for i := range 6 {
		name := fmt.Sprint("m", i+1)
		finds(t, f, 1, name, plainly, entry(1, name, at+i, 1))
	}
}

// chain makes symlinks s1 to sN in a directory, each to the next one, the last one to target.
func chain(t *testing.T, f *memfs.FS, dir, n int, target string) {
	t.Helper()
	for i := 1; i <= n; i++ {
		to := fmt.Sprint("s", i+1)
		if i == n {
			to = target
		}
		made(t, f, dir, fmt.Sprint("s", i), api.KSymlink, to)
	}
}

// P8.2: eight symlinks are gone through, not nine, wherever they stand in the path.
func TestEighthAndNinth(t *testing.T) {
	for n := 1; n <= api.MaxSymlink+3; n++ {
		f := newFS(t, line{1, "d", api.KDir, ""}, line{2, "f", api.KFile, ""})
		chain(t, f, 1, n, "d")
		if n > api.MaxSymlink {
			for _, how := range []api.How{follow, below, fresh, every} {
				fails(t, f, 1, "s1", how, api.ELOOP)
			}
			fails(t, f, 1, "s1/", plainly, api.ELOOP)
			fails(t, f, 1, "s1/f", plainly, api.ELOOP)
			fails(t, f, 1, "s1/nothing", parent, api.ELOOP)
			finds(t, f, 1, fmt.Sprint("s", n-api.MaxSymlink+1), follow, entry(1, "d", 2, api.MaxSymlink+1))
		} else {
			finds(t, f, 1, "s1", every, entry(1, "d", 2, n+1))
			finds(t, f, 1, "s1/", plainly, slashed(entry(1, "d", 2, n+1)))
			finds(t, f, 1, "s1/f", beneath, entry(2, "f", 3, n+2))
			finds(t, f, 1, "s1/q", parent, entry(2, "q", 0, n+2))
		}
		finds(t, f, 1, "s1", plainly, entry(1, "s1", 4, 1))
	}
}

// P8.2: a symlink counts each time that it is gone through; one that is only found does not count.
func TestEachTimeCounts(t *testing.T) {
	f := varied(t)
	eight := strings.Repeat("dot/", api.MaxSymlink)
	for _, how := range hows() {
		finds(t, f, 1, eight+"a", how, entry(1, "a", dirA, 2*api.MaxSymlink+1))
		finds(t, f, 1, eight, how, slashed(itself(1, 2*api.MaxSymlink)))
		fails(t, f, 1, eight+"dot/a", how, api.ELOOP)
		fails(t, f, 1, eight+"l/", how, api.ELOOP)
		if how.Follow {
			fails(t, f, 1, eight+"l", how, api.ELOOP)
		} else {
			finds(t, f, 1, eight+"l", how, entry(1, "l", linkB, 2*api.MaxSymlink+1))
		}
	}
}

// P8.2: what leads to itself is ELOOP, unless it is only found.
func TestLoops(t *testing.T) {
	f := varied(t)
	made(t, f, dirC, "round", api.KSymlink, "../c/round/q")
	made(t, f, dirC, "grows", api.KSymlink, "grows/grows")
	for _, how := range hows() {
		for _, s := range []string{"self/", "self/q", "x/", "y/q", "c/grows/", "c/grows/q"} {
			fails(t, f, 1, s, how, api.ELOOP)
		}
		if how.Follow {
			fails(t, f, 1, "self", how, api.ELOOP)
			fails(t, f, 1, "y", how, api.ELOOP)
		}
		if !how.Beneath {
			fails(t, f, 1, "c/round/q", how, api.ELOOP)
		}
	}
	finds(t, f, 1, "self", parent, entry(1, "self", selfL, 1))
	finds(t, f, 1, "x", beneath, entry(1, "x", linkX, 1))
	finds(t, f, 1, "y", plainly, entry(1, "y", linkY, 1))
}

// P8.2: of the ninth symlink ELOOP is told ahead of what is wrong with its target; of the eighth Parse's error is told, ahead of ENOTCAPABLE.
func TestSymlinksErrorsInOrder(t *testing.T) {
	for _, c := range []struct {
		target string
		how    api.How
		e      api.Errno
	}{
		{longer, follow, api.ENAMETOOLONG},
		{"/" + longer, below, api.ENAMETOOLONG},
		{"../" + longer, below, api.ENAMETOOLONG},
		{"/", below, api.ENOTCAPABLE},
		{"/nothing/q", below, api.ENOTCAPABLE},
		{"../s1", below, api.ENOTCAPABLE},
		{"nothing", follow, api.ENOENT},
		{"g/", follow, api.ENOTDIR},
		{"g/..", below, api.ENOTDIR},
	} {
		f := newFS(t, line{1, "g", api.KFile, ""})
		chain(t, f, 1, api.MaxSymlink+1, c.target)
		fails(t, f, 1, "s2", c.how, c.e)
		fails(t, f, 1, "s1", c.how, api.ELOOP)
	}
}

// P8.2: of what a target leads to the errors are told from where the symlink lies, part by part.
func TestTargetsErrors(t *testing.T) {
	f := varied(t)
	for i, c := range []struct {
		target string
		e      api.Errno
	}{
		{"nothing", api.ENOENT}, {"b/nothing/f", api.ENOENT}, {"b/f/q", api.ENOTDIR}, {"b/f/..", api.ENOTDIR}, {"b/f/", api.ENOTDIR},
		{"../g/", api.ENOTDIR}, {"/g/q", api.ENOTDIR}, {"/nothing", api.ENOENT}, {"../../nothing", api.ENOENT}, {"/self", api.ELOOP}, {"../bad", api.ENAMETOOLONG},
		{strings.Repeat("/", api.MaxPath-1) + "b", api.ENOENT},
	} {
		name := fmt.Sprint("t", i)
		made(t, f, dirA, name, api.KSymlink, c.target)
		fails(t, f, dirA, name, follow, c.e)
		fails(t, f, 1, "a/"+name+"/", plainly, c.e)
	}
}

// P8.2: a / behind what is there asks for a directory.
func TestSlash(t *testing.T) {
	f := varied(t)
	for _, how := range hows() {
		finds(t, f, 1, "a/", how, slashed(entry(1, "a", dirA, 1)))
		finds(t, f, 1, "a/b//", how, slashed(entry(dirA, "b", dirB, 2)))
		finds(t, f, 1, "a/./", how, slashed(itself(dirA, 2)))
		finds(t, f, 1, "./", how, slashed(itself(1, 1)))
		finds(t, f, 1, "l/", how, slashed(entry(dirA, "b", dirB, 3)))
		finds(t, f, 1, "l/./", how, slashed(itself(dirB, 4)))
		for _, s := range []string{"g/", "g//", "s/", "a/b/f/", "c/f2/", "lf/", "gs/", "a/inf/"} {
			fails(t, f, 1, s, how, api.ENOTDIR)
		}
		finds(t, f, 1, "g", how, entry(1, "g", fileG, 1))
		finds(t, f, 1, "s", how, entry(1, "s", boundS, 1))
	}
}

// P8.3: of a last part "." or "..", the directory itself is found, without a name.
func TestDots(t *testing.T) {
	f := varied(t)
	for _, c := range []struct {
		start int
		s     string
		want  api.Found
	}{
		{1, ".", itself(1, 1)},
		{dirB, ".", itself(dirB, 1)},
		{1, "..", itself(1, 1)},
		{1, "../..", itself(1, 2)},
		{dirA, "..", itself(1, 1)},
		{dirB, "..", itself(dirA, 1)},
		{dirB, "../", slashed(itself(dirA, 1))},
		{dirB, "../..", itself(1, 2)},
		{dirB, "../../..", itself(1, 3)},
		{1, "a/.", itself(dirA, 2)},
		{1, "a/..", itself(1, 2)},
		{1, "a/b/..", itself(dirA, 3)},
		{1, "a/b/../", slashed(itself(dirA, 3))},
		{1, "a/b/../.", itself(dirA, 4)},
		{1, "a/../c", entry(1, "c", dirC, 3)},
		{1, "./a/./b/./f", entry(dirB, "f", fileF, 6)},
		{1, "a/b/../../c/../a/b/f", entry(dirB, "f", fileF, 9)},
		{dirC, "/.", itself(1, 1)},
		{dirC, "/..", itself(1, 1)},
		{dirC, "/../..", itself(1, 2)},
		{dirC, "/./", slashed(itself(1, 1))},
		{dirC, "/a/..", itself(1, 2)},
	} {
		for _, how := range []api.How{plainly, follow, parent, fresh} {
			finds(t, f, c.start, c.s, how, c.want)
		}
	}
	finds(t, f, dirA, "./b/.", every, itself(dirB, 3))
	finds(t, f, 1, "a/b/...", parent, entry(dirB, "...", 0, 3))
}

// P8.3, the chapter's example: what is found where no part is left behind a symlink.
func TestNoPartLeft(t *testing.T) {
	f := newFS(t, line{1, "a", api.KDir, ""}, line{1, "l", api.KSymlink, "a"}, line{2, "top", api.KSymlink, "/"}, line{2, "tops", api.KSymlink, "//"})
	finds(t, f, 1, "l/..", follow, itself(1, 3))
	for _, name := range []string{"top", "tops"} {
		finds(t, f, 2, name, follow, itself(1, 1)) // the / of the root alone is not told, as that of the path "/" is not
		finds(t, f, 2, name+"/", plainly, slashed(itself(1, 1)))
		finds(t, f, 2, name+"/l", plainly, entry(1, "l", 3, 2))
		finds(t, f, 1, "l/"+name, follow, itself(1, 3))
	}
}

// P8.3: Dir and Name are those of the entry by which it was come to, if it has several.
func TestSeveralNames(t *testing.T) {
	f := varied(t)
	finds(t, f, 1, "a/b/f", plainly, entry(dirB, "f", fileF, 3))
	finds(t, f, 1, "c/f2", plainly, entry(dirC, "f2", fileF, 2))
	ok(t, f.Link(dirC, "m", linkF)) // a symlink leads on from where it was met
	finds(t, f, 1, "c/m", plainly, entry(dirC, "m", linkF, 2))
	fails(t, f, 1, "c/m", follow, api.ENOENT)
	made(t, f, dirC, "a", api.KDir, "")
	made(t, f, f.Next()-1, "b", api.KDir, "")
	ino := made(t, f, f.Next()-1, "f", api.KFile, "")
	finds(t, f, 1, "c/m", follow, entry(ino-1, "f", ino, 5))
}

// P8.4: Reach is the directory and all below it, each once, rising; symlinks are in it, not what they lead to.
func TestReach(t *testing.T) {
	f := varied(t)
	reaches(t, f, dirC, fileF, dirC)
	reaches(t, f, dirB, dirB, fileF)
	reaches(t, f, dirA, dirA, dirB, fileF, absBS, upC, turns, inF)
	var all []int
	for ino := 1; ino < heldDir; ino++ {
		all = append(all, ino)
	}
	reaches(t, f, 1, all...)
}

// P8.4: what is no directory reaches nothing; one without a link is still one, and reaches itself.
func TestReachOfNoDirectory(t *testing.T) {
	f := varied(t)
	for ino := range noDirs() {
		if ino != heldDir {
			reaches(t, f, ino)
		}
	}
	reaches(t, f, heldDir, heldDir)
	ok(t, f.Release(heldDir))
	reaches(t, f, heldDir)
}

// P8.4: Reach goes with what is made, moved and taken away.
func TestReachChanges(t *testing.T) {
	f := newFS(t, line{1, "a", api.KDir, ""}, line{1, "b", api.KDir, ""}, line{2, "c", api.KDir, ""}, line{4, "f", api.KFile, ""})
	reaches(t, f, 1, 1, 2, 3, 4, 5)
	reaches(t, f, 2, 2, 4, 5)
	reaches(t, f, 3, 3)
	ok(t, f.Rename(2, "c", 3, "c"))
	reaches(t, f, 2, 2)
	reaches(t, f, 3, 3, 4, 5)
	ok(t, f.Link(2, "g", 5))
	ok(t, f.Link(2, "h", 5))
	ok(t, f.Link(4, "g", 5))
	reaches(t, f, 2, 2, 5)
	reaches(t, f, 4, 4, 5)
	reaches(t, f, 1, 1, 2, 3, 4, 5)
	ok(t, f.Unlink(4, "f"))
	ok(t, f.Unlink(4, "g"))
	reaches(t, f, 3, 3, 4)
	reaches(t, f, 1, 1, 2, 3, 4, 5)
	ok(t, f.Hold(4))
	ok(t, f.Rmdir(3, "c"))
	reaches(t, f, 1, 1, 2, 3, 5)
	reaches(t, f, 4, 4)
}

// P8.4: Reach is whole, however deep and however wide.
func TestReachOfMuch(t *testing.T) {
	f := newFS(t)
	dir := 1
	for f.Next() <= api.MaxInodes {
		dir = made(t, f, dir, "d", api.KDir, "")
	}
	if l := Reach(f, 1); len(l) != api.MaxInodes || !slices.IsSorted(l) || l[0] != 1 || l[len(l)-1] != api.MaxInodes {
		t.Errorf("deep: %v", l)
	}
	reaches(t, f, api.MaxInodes, api.MaxInodes)
	f = newFS(t, line{1, "w", api.KDir, ""}, line{1, "v", api.KDir, ""})
	want := []int{2}
	for i := range api.MaxEntries {
		want = append(want, made(t, f, 2, fmt.Sprintf("%03d", api.MaxEntries-i), []int{api.KFile, api.KDir, api.KBound}[i%3], ""))
	}
	reaches(t, f, 2, want...)
	reaches(t, f, 3, 3)
	reaches(t, f, 1, append([]int{1, 2, 3}, want[1:]...)...)
}

// P8.4: an answer is new memory, its spare room too.
func TestReachIsNew(t *testing.T) {
	f := varied(t)
	a, b := Reach(f, 1), Reach(f, 1)
	was := slices.Clone(b)
	a = a[:cap(a)]
	for i := range a {
		a[i] = -7
	}
	if !slices.Equal(b, was) || !slices.Equal(Reach(f, 1), was) {
		t.Error("an answer changed another one")
	}
}

// A nil file system tells EINVAL, ahead of all else, and reaches nothing.
func TestNilFileSystem(t *testing.T) {
	for _, how := range hows() {
		for _, start := range append([]int{1, 2}, odd...) {
			for _, s := range []string{"", "/", "a", "/a", ".", "..", "a/", "a\x00", longer, strings.Repeat("a", api.MaxPath+1)} {
				fails(t, nil, start, s, how, api.EINVAL)
			}
			reaches(t, nil, start)
		}
	}
}

// Neither Walk nor Reach changes the file system, and each tells the same again.
func TestNothingChanges(t *testing.T) {
	f := varied(t)
	was := show(f)
	for _, s := range append(paths(), "", "/", longer, "nothing/q/", "l/f/", "abs/..", "deep/") {
		for _, how := range hows() {
			for start := range goneFile + 2 {
				a, e := Walk(f, start, s, how)
				if b, g := Walk(f, start, s, how); a != b || e != g {
					t.Fatalf("Walk(%d, %q, %+v): %+v %d, and then %+v %d", start, s, how, a, e, b, g)
				}
			}
		}
	}
	for start := range goneFile + 2 {
		Reach(f, start)
	}
	if now := show(f); now != was {
		t.Errorf("changed\n%s\nto\n%s", was, now)
	}
}

// P8.6: the greatest number of steps that there can be, through eight symlinks with as many parts as a target has room for.
func TestMostSteps(t *testing.T) {
	way := strings.Repeat("./", api.MaxPath/2-1)
	f := newFS(t)
	for i := range api.MaxSymlink {
		made(t, f, 1, string(rune('a'+i)), api.KSymlink, way+string(rune('b'+i)))
	}
	end := string(rune('a' + api.MaxSymlink))
	made(t, f, 1, end, api.KFile, "")
	steps := (1 + api.MaxSymlink) * api.MaxPath / 2
	finds(t, f, 1, way+"a", below, entry(1, end, api.MaxSymlink+2, steps))
	fails(t, f, 1, way+"a/", below, api.ENOTDIR)
	if steps > bound(way+"a") {
		t.Errorf("%d steps, more than %d", steps, bound(way+"a"))
	}
	finds(t, f, 1, way+"./", plainly, slashed(itself(1, api.MaxPath/2)))
}

// bound answers how many steps P8.6 allows a path.
func bound(s string) int { return len(s)/2 + 1 + api.MaxSymlink*(api.MaxPath/2+1) }
