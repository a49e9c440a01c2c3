package dircalls

import (
	"fmt"
	"math"
	"testing"

	"purlieu/api"
	"purlieu/rights"
	"purlieu/slots"
	"purlieu/world"
)

// needs are the rights that calls need of their directories, from the document.
var needs = map[int][2]api.Rights{
	mkdirat:    {api.CapLookup | api.CapMkdir},
	unlinkat:   {api.CapLookup | api.CapUnlink},
	renameat:   {api.CapLookup | api.CapRenameFrom, api.CapLookup | api.CapRenameTo},
	linkat:     {api.CapLookup | api.CapLinkFrom, api.CapLookup | api.CapLinkTo},
	symlinkat:  {api.CapLookup | api.CapSymlink},
	readlinkat: {api.CapLookup | api.CapReadlink},
	fstatat:    {api.CapLookup | api.CapStat},
}

// way is a call with directories' numbers: how many of these it has, and its request from them, which something comes of in d.
type way struct {
	name string
	dirs int
	need [2]api.Rights
	of   func(d, d2 int) api.Req
}

// ways are all calls with directories' numbers, with each way in which these need rights.
func ways() []way {
	on := func(no int, s, u string, how ...int) func(d, d2 int) api.Req {
		return func(d, d2 int) api.Req { return req(no, s, u, append([]int{d}, how...)...) }
	}
	two := func(no int, s, u string) func(d, d2 int) api.Req {
		return func(d, d2 int) api.Req { return req(no, s, u, d, d2) }
	}
	l := []way{
		{"mkdirat", 1, needs[mkdirat], on(mkdirat, "a", "")},
		{"unlinkat 0", 1, needs[unlinkat], on(unlinkat, "f", "", 0)},
		{"unlinkat 1", 1, needs[unlinkat], on(unlinkat, "h", "", 1)},
		{"symlinkat", 1, needs[symlinkat], on(symlinkat, "a", "a")},
		{"readlinkat", 1, needs[readlinkat], on(readlinkat, "in", "")},
		{"fstatat 0", 1, needs[fstatat], on(fstatat, "f", "", 0)},
		{"fstatat 1", 1, needs[fstatat], on(fstatat, "f", "", 1)},
		{"renameat", 2, needs[renameat], two(renameat, "f", "a")},
		{"linkat", 2, needs[linkat], two(linkat, "f", "a")},
	}
	for _, x := range []struct {
		flags int
		need  api.Rights
	}{
		{0, api.CapLookup | api.CapRead},
		{direct, api.CapLookup | api.CapRead},
		{nofollow | nonblock | app, api.CapLookup | api.CapRead},
		{creat, api.CapLookup | api.CapRead | api.CapCreate},
		{wr, api.CapLookup | api.CapWrite},
		{both, api.CapLookup | api.CapRead | api.CapWrite},
		{wr | trunc, api.CapLookup | api.CapWrite | api.CapTruncate},
		{both | trunc | creat, api.CapLookup | api.CapRead | api.CapWrite | api.CapTruncate | api.CapCreate},
		{wr | trunc | creat | excl, api.CapLookup | api.CapWrite | api.CapTruncate | api.CapCreate},
	} {
		path := "f"
		switch {
		case x.flags&direct != 0:
			path = "e"
		case x.flags&excl != 0:
			path = "a"
		}
		l = append(l, way{fmt.Sprintf("openat %x", x.flags), 1, [2]api.Rights{x.need}, on(openat, path, "", x.flags)})
	}
	return l
}

// ready answers a scene in whose d there is an empty directory h, too.
func ready(t testing.TB) *world.World {
	t.Helper()
	w := scene(t)
	_, e := w.FS().Create(2, "h", api.KDir, "")
	must(t, "create", e)
	return w
}

// tried does a call of a way, and answers its error.
func tried(t *testing.T, w *world.World, pid int, r api.Req) api.Errno {
	t.Helper()
	was := fmt.Sprint(w.Dump())
	x := Call(w, pid, r)
	if x.Err != api.OK && (x.Val != 0 || x.S != "" || x.L != nil || fmt.Sprint(w.Dump()) != was) {
		t.Errorf("%d: %v: %v, or changes something", pid, r, x)
	}
	return x.Err
}

// P18.2: each call from each number of a directory; what is wrong with it is told ahead of the path.
func TestDirectoriesNumbers(t *testing.T) {
	rows := []struct {
		fd   int
		want api.Errno
	}{
		{root, api.ENOENT}, {full, api.OK}, {most, api.OK}, {lists, api.OK}, {lookup, api.ENOTCAPABLE}, {inner, api.ENOENT}, {aFile, api.ENOTDIR}, {aPipe, api.ENOTDIR}, {aSock, api.ENOTDIR}, {aProc, api.ENOTDIR},
		{removed, api.ENOENT}, {free, api.EBADF}, {14, api.EBADF}, {15, api.EBADF}, {-1, api.EBADF}, {-99, api.EBADF}, {-101, api.EBADF}, {64, api.EBADF}, {256, api.EBADF},
		{1 << 32, api.EBADF}, {1<<32 + full, api.EBADF}, {math.MaxInt, api.EBADF}, {math.MinInt, api.EBADF},
	}
	for _, x := range ways() {
		for _, y := range rows {
			for _, pid := range []int{one, two, capable, astray} {
				r := x.of(y.fd, y.fd)
				if got := tried(t, ready(t), pid, r); got != y.want && y.fd != root && y.fd != inner {
					t.Errorf("%s of %d by %d: %v, not %v", x.name, y.fd, pid, got, y.want)
				}
				r.S = ""
				want := y.want
				if want == api.OK {
					want = api.ENOENT
				}
				if got := tried(t, ready(t), pid, r); got != want && r.No != symlinkat {
					t.Errorf("%s of %d by %d, without a path: %v, not %v", x.name, y.fd, pid, got, want)
				}
			}
		}
	}
}

// P18.2: a number of a directory counts as well if it is not the least: by the one that is open there, not by the first.
func TestDirectoriesDiffer(t *testing.T) {
	rowsOf(t, []row{
		{one, req(openat, "f", "", root, 0), "12 +1.12:file12,0,full"}, {one, req(openat, "f", "", full, 0), "12 +1.12:file3,0,full"}, {two, req(openat, "g", "", inner, 0), "12 +2.12:file5,0,full"},
		{one, req(mkdirat, "a", "", root), "0 +/a#16/"}, {one, req(mkdirat, "a", "", full), "0 +/d/a#16/"}, {two, req(mkdirat, "a", "", inner), "0 +/d/e/a#16/"},
		{one, req(renameat, "f", "a", root, full), "0 -/f#12=x +/d/a#12=x"}, {one, req(renameat, "f", "a", full, root), "0 -/d/f#3=hello +/a#3=hello"}, {one, req(renameat, "f", "a", cwd, inner), "0 -/f#12=x +/d/e/a#12=x"},
		{two, req(renameat, "f", "a", cwd, root), "0 -/d/f#3=hello +/a#3=hello"}, {two, req(renameat, "f", "a", root, cwd), "0 -/f#12=x +/d/a#12=x"}, {two, req(linkat, "f", "a", cwd, inner), "0 +/d/e/a#3=hello"},
		{one, req(linkat, "f", "a", root, full), "0 +/d/a#12=x"}, {one, req(linkat, "f", "a", full, inner), "0 +/d/e/a#3=hello"}, {astray, req(linkat, "f", "a", full, root), "0 +/a#3=hello"},
	})
}

// limited answers a scene in which fd of pid has just these rights.
func limited(t testing.TB, pid, fd int, r api.Rights) *world.World {
	w := ready(t)
	must(t, "limit", w.Slots(pid).Limit(fd, r))
	return w
}

// P18.2: each right that a call needs is needed, no other one is, and a directory with just these does.
func TestRightsNeeded(t *testing.T) {
	for _, x := range ways() {
		for _, pid := range []int{one, capable} {
			for i := range x.dirs {
				r := x.of(full, full)
				r.A[i] = most
				for bit := range 32 {
					right := api.Rights(1) << bit
					want := api.OK
					if right&x.need[i] != 0 {
						want = api.ENOTCAPABLE
					}
					if got := tried(t, limited(t, pid, most, api.CapAll&^api.CapPdkill&^right), pid, r); got != want {
						t.Errorf("%s by %d without %s of %d: %v, not %v", x.name, pid, rights.Show(right), i, got, want)
					}
					if right&x.need[i] == 0 {
						continue
					}
					if got := tried(t, limited(t, pid, most, x.need[i]&^right), pid, r); got != api.ENOTCAPABLE {
						t.Errorf("%s by %d with all it needs but %s: %v", x.name, pid, rights.Show(right), got)
					}
				}
				if got := tried(t, limited(t, pid, most, x.need[i]), pid, r); got != api.OK {
					t.Errorf("%s by %d with just what it needs of %d: %v", x.name, pid, i, got)
				}
			}
		}
	}
}

// P18.2: of a descriptor that is of no directory and has not the rights, the rights are told.
func TestRightsAheadOfKind(t *testing.T) {
	for _, x := range ways() {
		for _, fd := range []int{aFile, aPipe, aSock, aProc, removed} {
			if got := tried(t, limited(t, one, fd, x.need[0]&^api.CapLookup), one, x.of(fd, full)); got != api.ENOTCAPABLE {
				t.Errorf("%s of %d: %v", x.name, fd, got)
			}
		}
	}
}

// P18.2: of two directories the first one's error is told ahead of the second one's, and both ahead of the paths'.
func TestTwoDirectories(t *testing.T) {
	w := ready(t)
	must(t, "limit", w.Slots(one).Limit(inner, api.CapAll&^api.CapLinkFrom&^api.CapRenameFrom))
	must(t, "limit", w.Slots(one).Limit(reads, api.CapLookup))
	told := func(fd int, first bool) api.Errno {
		switch fd {
		case free, -1:
			return api.EBADF
		case aFile, aPipe:
			return api.ENOTDIR
		case lookup, reads:
			return api.ENOTCAPABLE
		case inner:
			if first {
				return api.ENOTCAPABLE
			}
		}
		return api.OK
	}
	of := []int{root, full, most, cwd, inner, lookup, reads, aFile, aPipe, free, -1}
	for _, no := range []int{renameat, linkat} {
		for _, d := range of {
			for _, d2 := range of {
				want := told(d, true)
				if want == api.OK {
					want = told(d2, false)
				}
				for _, paths := range [][2]string{{"", ""}, {"nothing", "nothing/a"}, {"..", ".."}, {"f/", "f/"}} {
					got := tried(t, w, one, req(no, paths[0], paths[1], d, d2))
					if want != api.OK && got != want || want == api.OK && got == api.OK {
						t.Errorf("%d of %d and %d, %q: %v, not %v", no, d, d2, paths, got, want)
					}
				}
			}
		}
	}
}

// P18.2: of two paths the first one's error is told ahead of the second one's.
func TestTwoPaths(t *testing.T) {
	for _, no := range []int{renameat, linkat} {
		rowsOf(t, []row{
			{one, req(no, "nothing", "\x00", cwd, cwd), "ENOENT"}, {one, req(no, "\x00", "nothing/a", cwd, cwd), "EINVAL"}, {one, req(no, "f/a", "", cwd, full), "ENOTDIR"}, {one, req(no, "", "f/a", full, full), "ENOENT"},
			{capable, req(no, "../f", "f/a", full, full), "ENOTCAPABLE"}, {capable, req(no, "f/a", "../f", full, full), "ENOTDIR"}, {one, req(no, "o/a", "../f", cwd, most), "ELOOP"}, {one, req(no, "f", "../f", cwd, most), "ENOTCAPABLE"},
		})
	}
}

// P18.2: AtCwd, and a call without a number, go from where the process is; in capability mode neither goes.
func TestFromWhereItIs(t *testing.T) {
	rowsOf(t, []row{
		{one, req(open, "f", "", 0), "12 +1.12:file12,0,full"}, {two, req(open, "f", "", 0), "12 +2.12:file3,0,full"}, {capable, req(open, "f", "", 0), "ECAPMODE"}, {astray, req(open, "f", "", 0), "ENOENT"},
		{one, req(openat, "f", "", cwd, 0), "12 +1.12:file12,0,full"}, {two, req(openat, "f", "", cwd, 0), "12 +2.12:file3,0,full"}, {capable, req(openat, "f", "", cwd, 0), "ECAPMODE"}, {astray, req(openat, "f", "", cwd, 0), "ENOENT"},
		{astray, req(openat, "/f", "", cwd, 0), "12 +4.12:file12,0,full"}, {astray, req(open, ".", "", 0), "ENOENT"}, {astray, req(open, "..", "", 0), "ENOENT"}, {astray, req(open, "/", "", 0), "12 +4.12:dir1,0,full"},
		{two, req(mkdir, "../a", ""), "0 +/a#16/"}, {two, req(mkdirat, "/a", "", cwd), "0 +/a#16/"}, {two, req(stat, "up", "", 0), "0 [1 1 1 1]"}, {two, req(stat, "../l/abs", "", 0), "0 [1 1 1 1]"},
		{two, req(symlink, "x", "a"), "0 +/d/a#16>x"}, {two, req(symlinkat, "x", "a", cwd), "0 +/d/a#16>x"}, {capable, req(symlinkat, "x", "a", cwd), "ECAPMODE"},
		{two, req(link, "f", "a"), "0 +/d/a#3=hello"}, {two, req(linkat, "f", "a", cwd, cwd), "0 +/d/a#3=hello"}, {capable, req(linkat, "f", "a", cwd, full), "ECAPMODE"}, {capable, req(linkat, "f", "a", full, cwd), "ECAPMODE"},
		{two, req(rename, "f", "a"), "0 -/d/f#3=hello +/d/a#3=hello"}, {two, req(renameat, "f", "a", cwd, cwd), "0 -/d/f#3=hello +/d/a#3=hello"}, {capable, req(renameat, "f", "a", cwd, full), "ECAPMODE"}, {capable, req(renameat, "f", "a", full, cwd), "ECAPMODE"},
		{two, req(unlink, "f", ""), "0 -/d/f#3=hello +#3=hello"}, {two, req(unlinkat, "f", "", cwd, 0), "0 -/d/f#3=hello +#3=hello"}, {capable, req(unlinkat, "f", "", cwd, 0), "ECAPMODE"},
		{two, req(readlink, "in", ""), "1 f"}, {two, req(readlinkat, "in", "", cwd), "1 f"}, {capable, req(readlinkat, "in", "", cwd), "ECAPMODE"}, {capable, req(fstatat, "in", "", cwd, 0), "ECAPMODE"},
	})
}

// P18.2: what is opened through a directory has all rights, or those of the descriptor, with its whitelists.
func TestWhatIsOpenedHas(t *testing.T) {
	but := rights.Show(api.CapAll &^ api.CapPdkill)
	rowsOf(t, []row{
		{one, req(openat, "f", "", full, 0), "12 +1.12:file3,0,full"}, {one, req(openat, "f", "", lists, 0), "12 +1.12:file3,0,full"},
		{one, req(openat, "f", "", most, 0), "12 +1.12:file3,0," + but + ";all;120"}, {one, req(openat, "f", "", reads, 0), "12 +1.12:file3,0,read,lookup,fcntl,ioctl;7;16"},
		{capable, req(openat, "f", "", full, 0), "12 +3.12:file3,0,full"}, {capable, req(openat, "f", "", lists, 0), "12 +3.12:file3,0,all;1,2;8"},
		{capable, req(openat, "f", "", most, 0), "12 +3.12:file3,0," + but + ";all;120"}, {capable, req(openat, "f", "", reads, 0), "12 +3.12:file3,0,read,lookup,fcntl,ioctl;7;16"},
		{one, req(openat, "e", "", reads, direct), "12 +1.12:dir4,0,read,lookup,fcntl,ioctl;7;16"}, {capable, req(openat, ".", "", lists, direct), "12 +3.12:dir2,0,all;1,2;8"},
		{one, req(openat, "a", "", most, creat|wr), "12 +/d/a#16= +1.12:file16,1," + but + ";all;120"}, {capable, req(openat, "a", "", lists, creat|both|app), "12 +/d/a#16= +3.12:file16,10,all;1,2;8"},
		{one, req(openat, "a", "", lists, creat|wr), "12 +/d/a#16= +1.12:file16,1,full"},
	})
}

// P18.2: what is opened keeps the directory's rights from then on, and so what is opened through that.
func TestHandedOn(t *testing.T) {
	w := scene(t)
	for i, x := range []row{
		{one, req(openat, "e", "", reads, direct), "12 +1.12:dir4,0,read,lookup,fcntl,ioctl;7;16"},
		{one, req(openat, "g", "", 12, 0), "13 +1.13:file5,0,read,lookup,fcntl,ioctl;7;16"},
		{one, req(openat, "g", "", 12, wr), "ENOTCAPABLE"}, {one, req(openat, "../f", "", 12, 0), "ENOTCAPABLE"}, {one, req(fstatat, "g", "", 12, 0), "ENOTCAPABLE"},
	} {
		if got := outcome(w, x.pid, x.r); got != x.want {
			t.Errorf("%d: %s, not %s", i, got, x.want)
		}
	}
	must(t, "limit", w.Slots(one).LimitIoctls(12, nil))
	s, e := w.Slots(one).Get(reads, 0)
	if like(s) != "read,lookup,fcntl,ioctl;7;16" || e != api.OK {
		t.Error("the directory's own whitelist is limited, too", s, e)
	}
}

// P18.2: with all rights, and not in capability mode, paths go where they lead; else nothing goes out of the directory.
func TestBeneath(t *testing.T) {
	out := []struct{ path, free, held string }{
		{"f", "0 [1 5 1 1]", "0 [1 5 1 1]"}, {"in", "0 [1 5 1 1]", "0 [1 5 1 1]"}, {"sub/g", "0 [1 0 1 0]", "0 [1 0 1 0]"}, {".", "0 [2 8 1 0]", "0 [2 8 1 0]"}, {"./e/./", "0 [2 1 1 0]", "0 [2 1 1 0]"},
		{"..", "0 [2 4 0 0]", "ENOTCAPABLE"}, {"../f", "0 [1 1 1 1]", "ENOTCAPABLE"}, {"e/..", "0 [2 8 1 0]", "ENOTCAPABLE"}, {"e/../f", "0 [1 5 1 1]", "ENOTCAPABLE"}, {"sub/../f", "0 [1 5 1 1]", "ENOTCAPABLE"}, {"../d/f", "0 [1 5 1 1]", "ENOTCAPABLE"},
		{"up", "0 [1 1 1 1]", "ENOTCAPABLE"}, {"abs", "0 [1 1 1 1]", "ENOTCAPABLE"}, {"/f", "0 [1 1 1 1]", "ENOTCAPABLE"}, {"/", "0 [2 4 0 0]", "ENOTCAPABLE"}, {"/d/f", "0 [1 5 1 1]", "ENOTCAPABLE"}, {"./..", "0 [2 4 0 0]", "ENOTCAPABLE"},
		{"f/..", "ENOTDIR", "ENOTDIR"}, {"nothing/..", "ENOENT", "ENOENT"}, {"new", "ENOENT", "ENOENT"}, {"../nothing", "ENOENT", "ENOTCAPABLE"},
	}
	var rows []row
	for _, x := range out {
		for _, fd := range []int{full, lists} {
			rows = append(rows, row{one, req(fstatat, x.path, "", fd, 0), x.free}, row{two, req(fstatat, x.path, "", fd, 0), x.free}, row{capable, req(fstatat, x.path, "", fd, 0), x.held})
		}
		for _, pid := range []int{one, two, capable, astray} {
			rows = append(rows, row{pid, req(fstatat, x.path, "", most, 0), x.held})
		}
	}
	rowsOf(t, rows)
}

// P18.2, P18.7: by no call a path leaves the directory.
func TestBeneathByEachCall(t *testing.T) {
	for _, path := range []string{"..", "../f", "../d/f", "../a", "/f", "/", "/a", "/d/f", "e/../f", "up/", "abs/", "up/a", "sub/../../a", "./../a"} {
		var rows []row
		for _, x := range []struct{ pid, fd int }{{capable, full}, {capable, lists}, {one, most}, {astray, most}, {capable, most}} {
			for _, flags := range []int{0, wr, creat | wr, creat | excl | wr, direct, nofollow, both | trunc} {
				rows = append(rows, row{x.pid, req(openat, path, "", x.fd, flags), "ENOTCAPABLE"})
			}
			for how := range 2 {
				rows = append(rows, row{x.pid, req(unlinkat, path, "", x.fd, how), "ENOTCAPABLE"}, row{x.pid, req(fstatat, path, "", x.fd, how), "ENOTCAPABLE"}, row{x.pid, req(linkat, path, "a", x.fd, full, how), "ENOTCAPABLE"})
			}
			rows = append(rows, row{x.pid, req(mkdirat, path, "", x.fd), "ENOTCAPABLE"}, row{x.pid, req(symlinkat, "f", path, x.fd), "ENOTCAPABLE"}, row{x.pid, req(readlinkat, path, "", x.fd), "ENOTCAPABLE"},
				row{x.pid, req(linkat, "f", path, full, x.fd), "ENOTCAPABLE"}, row{x.pid, req(renameat, path, "a", x.fd, full), "ENOTCAPABLE"}, row{x.pid, req(renameat, "f", path, full, x.fd), "ENOTCAPABLE"})
		}
		rowsOf(t, rows)
	}
}

// P18.2: of two directories each one has its own bounds.
func TestTwoBounds(t *testing.T) {
	rowsOf(t, []row{
		{one, req(linkat, "../f", "a", full, most), "0 +/d/a#12=x"}, {one, req(linkat, "../f", "a", most, full), "ENOTCAPABLE"}, {one, req(linkat, "f", "../a", most, full), "0 +/a#3=hello"}, {one, req(linkat, "f", "../a", full, most), "ENOTCAPABLE"},
		{one, req(renameat, "/f", "a", cwd, most), "0 -/f#12=x +/d/a#12=x"}, {one, req(renameat, "/f", "a", most, cwd), "ENOTCAPABLE"}, {one, req(renameat, "f", "/a", most, cwd), "0 -/d/f#3=hello +/a#3=hello"}, {one, req(renameat, "f", "/a", cwd, most), "ENOTCAPABLE"},
	})
}

// P18.2: a descriptor that names a directory which never was there leads nowhere.
func TestDirectoryThatNeverWas(t *testing.T) {
	w := scene(t)
	if fd := w.Open(one, api.KDir, 99, 0, slots.Full(1)); fd != free {
		t.Fatal(fd)
	}
	for _, x := range ways() {
		if got := tried(t, w, one, x.of(free, free)); got != api.ENOENT {
			t.Errorf("%s: %v", x.name, got)
		}
	}
	if got := outcome(w, one, req(openat, "/f", "", free, 0)); got != "13 +1.13:file12,0,full" {
		t.Error(got)
	}
	if got := outcome(w, one, req(fchdir, "", "", free)); got != "ENOENT" {
		t.Error(got)
	}
}
