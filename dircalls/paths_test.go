package dircalls

import (
	"fmt"
	"math"
	"strings"
	"testing"

	"purlieu/api"
	"purlieu/world"
)

// P18.4: mkdir and mkdirat.
func TestMkdir(t *testing.T) {
	rowsOf(t, []row{
		{one, req(mkdir, "a", ""), "0 +/a#16/"}, {one, req(mkdir, "a/", ""), "0 +/a#16/"}, {one, req(mkdir, "d/e/a//", ""), "0 +/d/e/a#16/"}, {one, req(mkdir, "l/a", ""), "0 +/d/a#16/"}, {two, req(mkdir, "sub/../a", ""), "0 +/d/a#16/"},
		{one, req(mkdir, "d", ""), "EEXIST"}, {one, req(mkdir, "d/", ""), "EEXIST"}, {one, req(mkdir, "f", ""), "EEXIST"}, {one, req(mkdir, "f/", ""), "ENOTDIR"}, {one, req(mkdir, "l", ""), "EEXIST"}, {one, req(mkdir, "l/", ""), "EEXIST"}, {one, req(mkdir, "o", ""), "EEXIST"}, {one, req(mkdir, "o/", ""), "ELOOP"}, {one, req(mkdir, "d/s", ""), "EEXIST"}, {one, req(mkdir, "d/s/", ""), "ENOTDIR"},
		{one, req(mkdir, ".", ""), "EEXIST"}, {one, req(mkdir, "..", ""), "EEXIST"}, {one, req(mkdir, "/", ""), "EEXIST"}, {one, req(mkdir, "d/.", ""), "EEXIST"}, {one, req(mkdir, "a/.", ""), "ENOENT"}, {one, req(mkdir, "a/b", ""), "ENOENT"}, {one, req(mkdir, "f/a", ""), "ENOTDIR"},
		{two, req(mkdir, "new", ""), "EEXIST"}, {two, req(mkdir, "new/", ""), "0 +/d/none#16/"}, {two, req(mkdir, "new/a", ""), "ENOENT"}, {two, req(mkdir, "abs/a", ""), "ENOTDIR"}, {astray, req(mkdir, "a", ""), "ENOENT"}, {astray, req(mkdir, ".", ""), "ENOENT"}, {astray, req(mkdir, "/a", ""), "0 +/a#16/"},
		{capable, req(mkdirat, "a", "", full), "0 +/d/a#16/"}, {capable, req(mkdirat, "e", "", full), "EEXIST"}, {capable, req(mkdirat, "new/", "", most), "0 +/d/none#16/"}, {capable, req(mkdirat, ".", "", full), "EEXIST"}, {capable, req(mkdirat, "a", "", removed), "ENOENT"}, {one, req(mkdirat, "a", "", removed), "ENOENT"},
	})
}

// P18.4: symlink and symlinkat: the first text is the target, and is not gone.
func TestSymlink(t *testing.T) {
	long := strings.Repeat("a/", 128)
	rowsOf(t, []row{
		{one, req(symlink, "d/f", "a"), "0 +/a#16>d/f"}, {one, req(symlink, "/nothing/at/all/", "a"), "0 +/a#16>/nothing/at/all/"}, {one, req(symlink, "..", "l/a"), "0 +/d/a#16>.."}, {one, req(symlink, long, "a"), "0 +/a#16>" + long}, {one, req(symlink, strings.Repeat("b", 256), "a"), "0 +/a#16>" + strings.Repeat("b", 256)},
		{one, req(symlink, "", "a"), "ENOENT"}, {one, req(symlink, long+"b", "a"), "ENAMETOOLONG"}, {one, req(symlink, "a\x00", "a"), "EINVAL"}, {one, req(symlink, "", "f"), "EEXIST"}, {one, req(symlink, "a\x00", "a/"), "ENOENT"}, {one, req(symlink, long+"b", "d/"), "EEXIST"},
		{one, req(symlink, "f", "d"), "EEXIST"}, {one, req(symlink, "f", "d/"), "EEXIST"}, {one, req(symlink, "f", "f"), "EEXIST"}, {one, req(symlink, "f", "f/"), "ENOTDIR"}, {one, req(symlink, "f", "l"), "EEXIST"}, {one, req(symlink, "f", "o"), "EEXIST"}, {one, req(symlink, "f", "o/"), "ELOOP"}, {one, req(symlink, "f", "."), "EEXIST"}, {one, req(symlink, "f", "/"), "EEXIST"}, {one, req(symlink, "f", ".."), "EEXIST"},
		{one, req(symlink, "f", "a/"), "ENOENT"}, {one, req(symlink, "f", "a/b"), "ENOENT"}, {one, req(symlink, "f", "f/a"), "ENOTDIR"}, {two, req(symlink, "f", "new"), "EEXIST"}, {two, req(symlink, "f", "new/"), "ENOENT"}, {astray, req(symlink, "f", "a"), "ENOENT"},
		{capable, req(symlinkat, "/f", "a", full), "0 +/d/a#16>/f"}, {capable, req(symlinkat, "../..", "e/a", most), "0 +/d/e/a#16>../.."}, {capable, req(symlinkat, "f", "in", full), "EEXIST"}, {capable, req(symlinkat, "f", "a/", full), "ENOENT"}, {capable, req(symlinkat, "", "a", full), "ENOENT"}, {one, req(symlinkat, "f", "a", removed), "ENOENT"},
	})
}

// P18.4: link and linkat, each with each how.
func TestLink(t *testing.T) {
	rowsOf(t, []row{
		{one, req(link, "f", "a"), "0 +/a#12=x"}, {one, req(link, "d/f", "d/e/a"), "0 +/d/e/a#3=hello"}, {one, req(link, "d/s", "a"), "0 +/a#11@"}, {one, req(link, "l", "a"), "0 +/a#13>d"}, {one, req(link, "o", "a"), "0 +/a#14>o"}, {two, req(link, "in", "a"), "0 +/d/a#6>f"}, {two, req(link, "new", "a"), "0 +/d/a#8>none"},
		{one, req(link, "d", "a"), "EPERM"}, {one, req(link, "d/", "a"), "EPERM"}, {one, req(link, "l/", "a"), "EPERM"}, {one, req(link, ".", "a"), "EPERM"}, {one, req(link, "/", "a"), "EPERM"}, {one, req(link, "..", ".."), "EPERM"}, {one, req(link, "d", "d"), "EPERM"}, {one, req(link, "d", ""), "EPERM"}, {one, req(link, "d", "a/"), "EPERM"}, {one, req(link, "d", "nothing/a"), "EPERM"},
		{one, req(link, "nothing", "a"), "ENOENT"}, {one, req(link, "nothing", "f"), "ENOENT"}, {one, req(link, "f/", "a"), "ENOTDIR"}, {one, req(link, "f/a", "a"), "ENOTDIR"}, {two, req(link, "in/", "a"), "ENOTDIR"},
		{one, req(link, "f", "f"), "EEXIST"}, {one, req(link, "f", "d"), "EEXIST"}, {one, req(link, "f", "d/"), "EEXIST"}, {one, req(link, "f", "l"), "EEXIST"}, {one, req(link, "f", "d/new"), "EEXIST"}, {one, req(link, "f", "."), "EEXIST"}, {one, req(link, "f", "/"), "EEXIST"}, {one, req(link, "f", "d/f"), "EEXIST"},
		{one, req(link, "f", "a/"), "ENOENT"}, {one, req(link, "f", "d/new/"), "ENOENT"}, {one, req(link, "f", "d/f/"), "ENOTDIR"}, {one, req(link, "f", "a/b"), "ENOENT"}, {one, req(link, "f", "f/a"), "ENOTDIR"}, {one, req(link, "f", "o/"), "ELOOP"}, {one, req(link, "f", "o/a"), "ELOOP"},
		{two, req(linkat, "in", "a", cwd, cwd, 0), "0 +/d/a#6>f"}, {two, req(linkat, "in", "a", cwd, cwd, 1), "0 +/d/a#3=hello"}, {two, req(linkat, "sub", "a", cwd, cwd, 0), "0 +/d/a#7>e"}, {two, req(linkat, "sub", "a", cwd, cwd, 1), "EPERM"}, {two, req(linkat, "new", "a", cwd, cwd, 0), "0 +/d/a#8>none"}, {two, req(linkat, "new", "a", cwd, cwd, 1), "ENOENT"},
		{two, req(linkat, "up", "a", cwd, cwd, 1), "0 +/d/a#12=x"}, {two, req(linkat, "up", "a", cwd, cwd, 0), "0 +/d/a#9>../f"}, {one, req(linkat, "o", "a", cwd, cwd, 1), "ELOOP"}, {one, req(linkat, "o", "a", cwd, cwd, 0), "0 +/a#14>o"}, {two, req(linkat, "f", "in", cwd, cwd, 1), "EEXIST"}, {two, req(linkat, "f", "new", cwd, cwd, 1), "EEXIST"},
		{capable, req(linkat, "up", "a", full, full, 1), "ENOTCAPABLE"}, {capable, req(linkat, "up", "a", full, inner, 0), "0 +/d/e/a#9>../f"}, {capable, req(linkat, "in", "a", full, inner, 1), "0 +/d/e/a#3=hello"}, {capable, req(linkat, "e", "a", full, inner, 1), "EPERM"}, {capable, req(linkat, "in", "a/", full, full, 1), "ENOENT"},
		{one, req(linkat, "f", "a", root, removed, 0), "ENOENT"}, {one, req(linkat, "f", "a", removed, root, 0), "ENOENT"}, {one, req(linkat, "/f", "a", removed, root, 0), "0 +/a#12=x"},
	})
}

// P18.4: what has as many links as can be gets no more, and each error has its place.
func TestLinkWithoutRoom(t *testing.T) {
	links := func(w *world.World) {
		for i := range api.MaxLinks - 1 {
			must(t, "link", w.FS().Link(4, fmt.Sprint("x", i), 12))
		}
	}
	outcomes(t, some, links, []row{{one, req(link, "f", "a"), "EMLINK"}, {one, req(linkat, "f", "a", cwd, most, 1), "EMLINK"}, {one, req(link, "f", "d"), "EEXIST"}, {one, req(link, "f", "a/"), "ENOENT"}, {one, req(link, "f", "d/e/x0"), "EEXIST"}, {one, req(rename, "f", "a"), "0 -/f#12=x +/a#12=x"}})
	outcomes(t, wide, func(w *world.World) { links(w); must(t, "unlink", w.FS().Unlink(4, "x0")) }, []row{{one, req(link, "f", "a"), "0 +/a#12=x"}})
	outcomes(t, wide, func(w *world.World) { packs(t, w, 2, 0) }, []row{
		{one, req(link, "f", "d/a"), "ENOSPC"}, {one, req(linkat, "f", "a", root, full, 0), "ENOSPC"}, {one, req(mkdir, "d/a", ""), "ENOSPC"}, {one, req(mkdirat, "a", "", most), "ENOSPC"}, {one, req(symlink, "f", "d/a"), "ENOSPC"}, {one, req(symlink, "", "d/a"), "ENOENT"}, {one, req(rename, "f", "d/a"), "ENOSPC"}, {one, req(renameat, "f", "a", cwd, most), "ENOSPC"},
		{one, req(rename, "d/f", "d/a"), "0 -/d/f#3=hello +/d/a#3=hello"}, {one, req(rename, "f", "d/f"), "0 -/d/f#3=hello -/f#12=x +/d/f#12=x +#3=hello"}, {one, req(link, "f", "d/a/"), "ENOENT"}, {one, req(mkdir, "d/f", ""), "EEXIST"}, {one, req(mkdir, "d/e/a", ""), "0 +/d/e/a#72/"},
	})
	outcomes(t, some, func(w *world.World) { crowds(t, w, 0) }, []row{{one, req(mkdir, "a", ""), "ENOSPC"}, {one, req(symlinkat, "f", "a", full), "ENOSPC"}, {one, req(symlink, "a\x00", "a"), "EINVAL"}, {one, req(link, "f", "a"), "0 +/a#12=x"}, {one, req(mkdir, "d", ""), "EEXIST"}})
}

// P18.4: unlink, rmdir and unlinkat: what is open, or somebody's directory, stays without a name.
func TestUnlink(t *testing.T) {
	for _, x := range []struct{ path, unlinked, rmdir string }{
		{"f", "0 -/f#12=x", "ENOTDIR"}, {"l", "0 -/l#13>d", "ENOTDIR"}, {"o", "0 -/o#14>o", "ENOTDIR"}, {"d/s", "0 -/d/s#11@", "ENOTDIR"}, {"d/new", "0 -/d/new#8>none", "ENOTDIR"}, {"d/f", "0 -/d/f#3=hello +#3=hello", "ENOTDIR"}, {"l/f", "0 -/d/f#3=hello +#3=hello", "ENOTDIR"}, {"d/e/g", "0 -/d/e/g#5=", "ENOTDIR"}, {"d/sub/g", "0 -/d/e/g#5=", "ENOTDIR"},
		{"d", "EPERM", "ENOTEMPTY"}, {"d/", "EPERM", "ENOTEMPTY"}, {"d/e", "EPERM", "ENOTEMPTY"}, {"l/", "EPERM", "ENOTEMPTY"}, {"d/sub/", "EPERM", "ENOTEMPTY"}, {"d/h", "EPERM", "0 -/d/h#16/"}, {"d/h/", "EPERM", "0 -/d/h#16/"},
		{".", "EINVAL", "EINVAL"}, {"..", "EINVAL", "EINVAL"}, {"/", "EINVAL", "EINVAL"}, {"///", "EINVAL", "EINVAL"}, {"d/.", "EINVAL", "EINVAL"}, {"d/..", "EINVAL", "EINVAL"}, {"d/h/.", "EINVAL", "EINVAL"}, {"d/h/./", "EINVAL", "EINVAL"}, {"d/h/..", "EINVAL", "EINVAL"},
		{"nothing", "ENOENT", "ENOENT"}, {"nothing/", "ENOENT", "ENOENT"}, {"d/nothing/a", "ENOENT", "ENOENT"}, {"d/new/", "ENOENT", "ENOENT"}, {"f/", "ENOTDIR", "ENOTDIR"}, {"f/a", "ENOTDIR", "ENOTDIR"}, {"f/.", "ENOTDIR", "ENOTDIR"}, {"o/", "ELOOP", "ELOOP"}, {"", "ENOENT", "ENOENT"},
	} {
		for _, y := range []struct {
			r    api.Req
			want string
		}{
			{req(unlink, x.path, ""), x.unlinked}, {req(rmdir, x.path, ""), x.rmdir}, {req(unlinkat, x.path, "", cwd, 0), x.unlinked}, {req(unlinkat, x.path, "", cwd, 1), x.rmdir}, {req(unlinkat, x.path, "", root, 0), x.unlinked}, {req(unlinkat, x.path, "", root, 1), x.rmdir},
		} {
			if got := outcome(ready(t), one, y.r); got != y.want {
				t.Errorf("%v: %s, not %s", y.r, got, y.want)
			}
		}
	}
	rowsOf(t, []row{
		{capable, req(unlinkat, "in", "", full, 0), "0 -/d/in#6>f"}, {capable, req(unlinkat, "up", "", full, 0), "0 -/d/up#9>../f"}, {capable, req(unlinkat, "e/g", "", full, 0), "0 -/d/e/g#5="}, {capable, req(unlinkat, "e", "", full, 0), "EPERM"}, {capable, req(unlinkat, "e", "", full, 1), "ENOTEMPTY"}, {capable, req(unlinkat, ".", "", full, 1), "EINVAL"},
		{one, req(unlinkat, "f", "", removed, 0), "ENOENT"}, {one, req(unlinkat, ".", "", removed, 1), "ENOENT"}, {astray, req(rmdir, ".", ""), "ENOENT"},
	})
}

// P18.4: a directory that is open, or that a process is in, is taken away, and is there till it is let go.
func TestRmdirOfWhatIsHeld(t *testing.T) {
	w := ready(t)
	for i, x := range []row{
		{two, req(chdir, "h", ""), "0 -2@2 +2@16"}, {one, req(openat, "h", "", full, direct), "12 +1.12:dir16,0,full"}, {one, req(rmdir, "d/h", ""), "0 -/d/h#16/ +#16/"}, {two, req(mkdir, "a", ""), "ENOENT"}, {one, req(openat, "a", "", 12, creat), "ENOENT"}, {one, req(fstatat, ".", "", 12, 0), "ENOENT"},
		{two, req(chdir, "..", ""), "ENOENT"}, {one, req(fchdir, "", "", 12), "ENOENT"}, {two, req(chdir, "/", ""), "0 -2@16 +2@1"}, {one, req(mkdir, "d/h", ""), "0 +/d/h#17/"}, {one, req(openat, "a", "", 12, creat), "ENOENT"},
	} {
		if got := outcome(w, x.pid, x.r); got != x.want {
			t.Errorf("%d: %s, not %s", i, got, x.want)
		}
	}
	must(t, "close", w.Close(one, 12))
	if _, e := w.FS().Stat(16); e != api.ENOENT {
		t.Error("nobody holds it any more, and it is there", e)
	}
}

// P18.4: rename and renameat: of each kind, onto each kind, with slashes on either side.
func TestRename(t *testing.T) {
	for _, x := range []struct{ s, t, want string }{
		{"f", "a", "0 -/f#12=x +/a#12=x"}, {"f", "d/a", "0 -/f#12=x +/d/a#12=x"}, {"d/f", "a", "0 -/d/f#3=hello +/a#3=hello"}, {"l", "a", "0 -/l#13>d +/a#13>d"}, {"o", "a", "0 -/o#14>o +/a#14>o"}, {"d/s", "a", "0 -/d/s#11@ +/a#11@"}, {"d/h", "a", "0 -/d/h#16/ +/a#16/"}, {"d/h/", "a/", "0 -/d/h#16/ +/a#16/"}, {"d/h", "a/", "0 -/d/h#16/ +/a#16/"}, {"d/h/", "a", "0 -/d/h#16/ +/a#16/"}, {"d/sub/", "a", "0 -/d/e#4/ -/d/e/g#5= +/a#4/ +/a/g#5="},
		{"f", "f", "0"}, {"d", "d", "0"}, {"d/", "d/", "0"}, {"d", "l/", "0"}, {"l", "l", "0"}, {"d/f", "l/f", "0"}, {"d/h", "d/h/", "0"},
		{"f", "a/", "ENOTDIR"}, {"l", "a/", "ENOTDIR"}, {"d/s", "a/", "ENOTDIR"}, {"f", "d/", "ENOTDIR"}, {"f", "d/h/", "ENOTDIR"}, {"f", "l/", "ENOTDIR"}, {"f", "f/", "ENOTDIR"}, {"d", "f/", "ENOTDIR"}, {"f/", "a", "ENOTDIR"}, {"d/in/", "a", "ENOTDIR"}, {"f", "d/new/", "ENOTDIR"}, {"d/h", "d/new/", "0 -/d/h#16/ +/d/none#16/"},
		{"f", "d/f", "0 -/d/f#3=hello -/f#12=x +/d/f#12=x +#3=hello"}, {"d/f", "f", "0 -/d/f#3=hello -/f#12=x +/f#3=hello"}, {"f", "l", "0 -/f#12=x -/l#13>d +/l#12=x"}, {"l", "f", "0 -/f#12=x -/l#13>d +/f#13>d"}, {"f", "d/s", "0 -/d/s#11@ -/f#12=x +/d/s#12=x"}, {"d/s", "f", "0 -/d/s#11@ -/f#12=x +/f#11@"}, {"f", "d/new", "0 -/d/new#8>none -/f#12=x +/d/new#12=x"}, {"o", "d/in", "0 -/d/in#6>f -/o#14>o +/d/in#14>o"},
		{"d/h", "f", "ENOTDIR"}, {"d/h", "l", "ENOTDIR"}, {"d/h", "d/s", "ENOTDIR"}, {"f", "d/h", "EISDIR"}, {"f", "d", "EISDIR"}, {"o", "d/e", "EISDIR"}, {"d/s", "d/h", "EISDIR"}, {"d/h", "d/e", "ENOTEMPTY"}, {"d/e", "d/h", "0 -/d/e#4/ -/d/e/g#5= -/d/h#16/ +/d/h#4/ +/d/h/g#5="}, {"d/e", "d/h/", "0 -/d/e#4/ -/d/e/g#5= -/d/h#16/ +/d/h#4/ +/d/h/g#5="}, {"d/e/", "d/k/", "0 -/d/e#4/ -/d/e/g#5= +/d/k#4/ +/d/k/g#5="},
		{"d", "d/a", "EINVAL"}, {"d", "d/e", "EINVAL"}, {"d", "d/e/a", "EINVAL"}, {"d", "d/sub/a", "EINVAL"}, {"d", "l/a/", "EINVAL"}, {"d/e", "d/e/g", "EINVAL"}, {"d/e", "d", "ENOTEMPTY"},
		{".", "a", "EINVAL"}, {"..", "a", "EINVAL"}, {"/", "a", "EINVAL"}, {"d/.", "a", "EINVAL"}, {"d/e/..", "a", "EINVAL"}, {"f", ".", "EINVAL"}, {"f", "..", "EINVAL"}, {"f", "/", "EINVAL"}, {"d/h", "d/.", "EINVAL"}, {"d/h", "d/e/../", "EINVAL"}, {".", "", "EINVAL"}, {"/", "nothing/a", "EINVAL"}, {".", ".", "EINVAL"}, {".", "f/", "EINVAL"},
		{"nothing", "a", "ENOENT"}, {"nothing", "", "ENOENT"}, {"nothing", ".", "ENOENT"}, {"nothing/", "a/", "ENOENT"}, {"f", "", "ENOENT"}, {"f", "nothing/a", "ENOENT"}, {"f", "f/a", "ENOTDIR"}, {"o/", "a", "ELOOP"}, {"f", "o/", "ELOOP"}, {"f", "o/a", "ELOOP"}, {"d/new", "d/in", "0 -/d/in#6>f -/d/new#8>none +/d/in#8>none"},
	} {
		for _, r := range []api.Req{req(rename, x.s, x.t), req(renameat, x.s, x.t, cwd, cwd), req(renameat, x.s, x.t, root, cwd), req(renameat, x.s, x.t, cwd, root)} {
			if got := outcome(ready(t), one, r); got != x.want {
				t.Errorf("%v: %s, not %s", r, got, x.want)
			}
		}
	}
	rowsOf(t, []row{
		{capable, req(renameat, "f", "a", full, inner), "0 -/d/f#3=hello +/d/e/a#3=hello"}, {capable, req(renameat, "e", "a", full, inner), "EINVAL"}, {capable, req(renameat, "g", "f", inner, full), "0 -/d/e/g#5= -/d/f#3=hello +/d/f#5= +#3=hello"}, {capable, req(renameat, "e", "a/", full, full), "0 -/d/e#4/ -/d/e/g#5= +/d/a#4/ +/d/a/g#5="}, {capable, req(renameat, "f", "a/", full, full), "ENOTDIR"},
		{one, req(renameat, "f", "a", root, removed), "ENOENT"}, {one, req(renameat, "f", "a", removed, root), "ENOENT"}, {astray, req(rename, "/f", "/a"), "0 -/f#12=x +/a#12=x"}, {astray, req(rename, "/f", "a"), "ENOENT"},
	})
}

// P18.4: a file with two names, renamed from the one to the other, keeps both.
func TestRenameOntoItself(t *testing.T) {
	outcomes(t, some, func(w *world.World) { must(t, "link", w.FS().Link(2, "h", 12)) }, []row{
		{one, req(rename, "f", "d/h"), "0"}, {one, req(rename, "d/h", "f"), "0"}, {one, req(renameat, "f", "h", root, full), "0"}, {one, req(rename, "f", "d/h/"), "ENOTDIR"}, {one, req(unlink, "f", ""), "0 -/f#12=x"}, {one, req(link, "f", "d/h"), "EEXIST"},
	})
}

// P18.5: chdir and fchdir.
func TestChdir(t *testing.T) {
	rowsOf(t, []row{
		{one, req(chdir, "d", ""), "0 -1@1 +1@2"}, {one, req(chdir, "d/e/", ""), "0 -1@1 +1@4"}, {one, req(chdir, "l", ""), "0 -1@1 +1@2"}, {one, req(chdir, "l/", ""), "0 -1@1 +1@2"}, {one, req(chdir, "l/sub", ""), "0 -1@1 +1@4"}, {two, req(chdir, "..", ""), "0 -2@2 +2@1"}, {two, req(chdir, "../l/sub/.", ""), "0 -2@2 +2@4"}, {two, req(chdir, "/", ""), "0 -2@2 +2@1"}, {astray, req(chdir, "/d", ""), "0 -4@15 +4@2"},
		{one, req(chdir, ".", ""), "0"}, {one, req(chdir, "..", ""), "0"}, {one, req(chdir, "/", ""), "0"}, {two, req(chdir, "../d", ""), "0"}, {astray, req(chdir, ".", ""), "ENOENT"}, {astray, req(chdir, "..", ""), "ENOENT"}, {astray, req(chdir, "d", ""), "ENOENT"},
		{one, req(chdir, "f", ""), "ENOTDIR"}, {one, req(chdir, "f/", ""), "ENOTDIR"}, {one, req(chdir, "d/in", ""), "ENOTDIR"}, {one, req(chdir, "d/s", ""), "ENOTDIR"}, {one, req(chdir, "f/.", ""), "ENOTDIR"}, {one, req(chdir, "o", ""), "ELOOP"}, {one, req(chdir, "d/new", ""), "ENOENT"}, {one, req(chdir, "nothing", ""), "ENOENT"}, {one, req(chdir, "gone", ""), "ENOENT"}, {capable, req(chdir, "e", ""), "ECAPMODE"}, {capable, req(chdir, "", ""), "ECAPMODE"},
		{one, req(fchdir, "", "", full), "0 -1@1 +1@2"}, {one, req(fchdir, "", "", root), "0"}, {two, req(fchdir, "", "", inner), "0 -2@2 +2@4"}, {one, req(fchdir, "", "", most), "0 -1@1 +1@2"}, {one, req(fchdir, "", "", lists), "0 -1@1 +1@2"}, {astray, req(fchdir, "", "", root), "0 -4@15 +4@1"},
		{one, req(fchdir, "", "", lookup), "ENOTCAPABLE"}, {one, req(fchdir, "", "", reads), "ENOTCAPABLE"}, {one, req(fchdir, "", "", aFile), "ENOTDIR"}, {one, req(fchdir, "", "", aPipe), "ENOTDIR"}, {one, req(fchdir, "", "", aSock), "ENOTDIR"}, {one, req(fchdir, "", "", aProc), "ENOTDIR"}, {one, req(fchdir, "", "", removed), "ENOENT"}, {astray, req(fchdir, "", "", removed), "ENOENT"},
		{one, req(fchdir, "", "", free), "EBADF"}, {one, req(fchdir, "", "", cwd), "EBADF"}, {one, req(fchdir, "", "", -1), "EBADF"}, {one, req(fchdir, "", "", 15), "EBADF"}, {one, req(fchdir, "", "", math.MaxInt), "EBADF"}, {one, req(fchdir, "", "", math.MinInt), "EBADF"}, {capable, req(fchdir, "", "", full), "ECAPMODE"}, {capable, req(fchdir, "", "", free), "ECAPMODE"}, {one, req(fchdir, "d", "", full), "EINVAL"},
	})
	for bit := range 32 {
		right := api.Rights(1) << bit
		want := "0 -1@1 +1@2"
		if right == api.CapChdir {
			want = "ENOTCAPABLE"
		}
		if got := outcome(limited(t, one, full, api.CapAll&^right), one, req(fchdir, "", "", full)); got != want {
			t.Errorf("fchdir without %x: %s", right, got)
		}
	}
	if got := outcome(limited(t, one, full, api.CapChdir), one, req(fchdir, "", "", full)); got != "0 -1@1 +1@2" {
		t.Error("fchdir with just its right:", got)
	}
	if got := outcome(limited(t, one, aFile, api.CapLookup), one, req(fchdir, "", "", aFile)); got != "ENOTCAPABLE" {
		t.Error("fchdir of a file without its right:", got)
	}
}

// P18.5: readlink and stat, and theirs from a directory.
func TestReadlinkAndStat(t *testing.T) {
	for _, x := range []struct{ path, link, through, not string }{
		{"f", "EINVAL", "0 [1 5 1 1]", "0 [1 5 1 1]"}, {"e", "EINVAL", "0 [2 1 1 0]", "0 [2 1 1 0]"}, {"e/", "EINVAL", "0 [2 1 1 0]", "0 [2 1 1 0]"}, {"s", "EINVAL", "0 [4 0 1 0]", "0 [4 0 1 0]"}, {"e/g", "EINVAL", "0 [1 0 1 0]", "0 [1 0 1 0]"}, {"h", "EINVAL", "0 [2 0 1 0]", "0 [2 0 1 0]"},
		{"in", "1 f", "0 [1 5 1 1]", "0 [3 1 1 0]"}, {"sub", "1 e", "0 [2 1 1 0]", "0 [3 1 1 0]"}, {"new", "4 none", "ENOENT", "0 [3 4 1 0]"}, {"up", "4 ../f", "0 [1 1 1 1]", "0 [3 4 1 0]"}, {"abs", "2 /f", "0 [1 1 1 1]", "0 [3 2 1 0]"}, {"../o", "1 o", "ELOOP", "0 [3 1 1 0]"}, {"../l", "1 d", "0 [2 9 1 0]", "0 [3 1 1 0]"}, {"sub/../in", "1 f", "0 [1 5 1 1]", "0 [3 1 1 0]"},
		{"in/", "ENOTDIR", "ENOTDIR", "ENOTDIR"}, {"sub/", "EINVAL", "0 [2 1 1 0]", "0 [2 1 1 0]"}, {"../l/", "EINVAL", "0 [2 9 1 0]", "0 [2 9 1 0]"}, {"new/", "ENOENT", "ENOENT", "ENOENT"}, {"../o/", "ELOOP", "ELOOP", "ELOOP"}, {"s/", "ENOTDIR", "ENOTDIR", "ENOTDIR"}, {"f/.", "ENOTDIR", "ENOTDIR", "ENOTDIR"},
		{".", "EINVAL", "0 [2 9 1 0]", "0 [2 9 1 0]"}, {"..", "EINVAL", "0 [2 4 0 0]", "0 [2 4 0 0]"}, {"/", "EINVAL", "0 [2 4 0 0]", "0 [2 4 0 0]"}, {"nothing", "ENOENT", "ENOENT", "ENOENT"}, {"", "ENOENT", "ENOENT", "ENOENT"},
	} {
		w := ready(t)
		for _, y := range []row{
			{two, req(readlink, x.path, ""), x.link}, {two, req(readlinkat, x.path, "", cwd), x.link}, {one, req(readlinkat, x.path, "", full), x.link}, {astray, req(readlinkat, x.path, "", lists), x.link},
			{two, req(stat, x.path, "", 0), x.through}, {two, req(fstatat, x.path, "", cwd, 0), x.through}, {one, req(fstatat, x.path, "", full, 0), x.through},
			{two, req(stat, x.path, "", 1), x.not}, {two, req(fstatat, x.path, "", cwd, 1), x.not}, {astray, req(fstatat, x.path, "", full, 1), x.not},
		} {
			if got := outcome(w, y.pid, y.r); got != y.want {
				t.Errorf("%v: %s, not %s", y.r, got, y.want)
			}
		}
	}
	rowsOf(t, []row{
		{capable, req(readlinkat, "up", "", full), "4 ../f"}, {capable, req(readlinkat, "abs", "", full), "2 /f"}, {capable, req(fstatat, "up", "", full, 1), "0 [3 4 1 0]"}, {capable, req(fstatat, "up", "", full, 0), "ENOTCAPABLE"}, {capable, req(readlinkat, "abs/", "", full), "ENOTCAPABLE"}, {capable, req(fstatat, "abs/", "", full, 1), "ENOTCAPABLE"},
		{capable, req(readlinkat, "in", "", full), "1 f"}, {capable, req(fstatat, "in", "", full, 0), "0 [1 5 1 1]"}, {one, req(readlinkat, "a", "", removed), "ENOENT"}, {one, req(fstatat, ".", "", removed, 1), "ENOENT"}, {one, req(fstatat, "/d/f", "", removed, 1), "0 [1 5 1 1]"},
	})
}

// P18.5: stat tells size, links and blocks as they are, of what has more than one of each.
func TestStatTellsAll(t *testing.T) {
	outcomes(t, some, func(w *world.World) {
		must(t, "write", w.FS().Write(12, 100, []byte("y")))
		must(t, "write", w.FS().Write(12, 700, []byte("y")))
		must(t, "link", w.FS().Link(2, "h", 12))
		must(t, "link", w.FS().Link(4, "h", 12))
		must(t, "link", w.FS().Link(4, "i", 6))
	}, []row{
		{one, req(stat, "f", "", 0), "0 [1 701 3 3]"}, {one, req(stat, "d/e/h", "", 1), "0 [1 701 3 3]"}, {capable, req(fstatat, "h", "", inner, 0), "0 [1 701 3 3]"}, {one, req(stat, "d/in", "", 1), "0 [3 1 2 0]"}, {one, req(stat, "d/e", "", 0), "0 [2 3 1 0]"}, {one, req(readlink, "d/e/i", ""), "1 f"}, {one, req(stat, "d/e/i", "", 0), "ENOENT"},
	})
	long := strings.Repeat("a/", 128)
	outcomes(t, some, func(w *world.World) {
		_, e := w.FS().Create(2, "h", api.KSymlink, long)
		must(t, "create", e)
	}, []row{{one, req(readlink, "d/h", ""), "256 " + long}, {capable, req(readlinkat, "h", "", full), "256 " + long}, {one, req(stat, "d/h", "", 1), "0 [3 256 1 0]"}, {one, req(stat, "d/h", "", 0), "ENOENT"}})
}

// P18.3, P18.5: what Call answers is new memory: what is done with it changes nothing that is answered later.
func TestNewMemory(t *testing.T) {
	w := scene(t)
	first := Call(w, one, req(stat, "d/f", "", 0))
	clear(first.L[:cap(first.L)])
	if got := fmt.Sprint(Call(w, one, req(stat, "d/f", "", 0)).L); got != "[1 5 1 1]" {
		t.Error(got)
	}
	for fd, pid := range map[int]int{reads: one, lists: capable} {
		opened := Call(w, pid, req(openat, "f", "", fd, 0))
		must(t, "limit", w.Slots(pid).LimitIoctls(opened.Val, nil))
		if s, _ := w.Slots(pid).Get(fd, 0); len(s.Ioctls.L) == 0 {
			t.Error("what was opened shares its whitelist with the directory")
		}
	}
}
