package dircalls

import (
	"fmt"
	"strings"
	"testing"

	"purlieu/api"
	"purlieu/slots"
	"purlieu/world"
)

// P18.3: open of each kind of thing with each flag that plays a part, and what comes of it, word by word.
func TestOpen(t *testing.T) {
	rowsOf(t, []row{
		// nothing
		{one, req(open, "a", "", 0), "ENOENT"}, {one, req(open, "a/", "", 0), "ENOENT"}, {one, req(open, "a", "", wr|trunc), "ENOENT"}, {one, req(open, "a", "", direct), "ENOENT"}, {one, req(open, "a", "", excl), "ENOENT"},
		{one, req(open, "a", "", creat), "12 +/a#16= +1.12:file16,0,full"}, {one, req(open, "a", "", creat|wr), "12 +/a#16= +1.12:file16,1,full"}, {one, req(open, "a", "", creat|both|trunc|excl|nofollow), "12 +/a#16= +1.12:file16,2,full"},
		{one, req(open, "a/", "", creat), "EISDIR"}, {one, req(open, "a/", "", creat|excl|wr), "EISDIR"}, {one, req(open, "a/b", "", creat), "ENOENT"}, {one, req(open, "f/a", "", creat), "ENOTDIR"}, {one, req(open, "d/e/a", "", creat), "12 +/d/e/a#16= +1.12:file16,0,full"},
		// a file
		{one, req(open, "d/f", "", 0), "12 +1.12:file3,0,full"}, {one, req(open, "d/f", "", wr), "12 +1.12:file3,1,full"}, {one, req(open, "d/f", "", both), "12 +1.12:file3,2,full"},
		{one, req(open, "d/f", "", app|nonblock), "12 +1.12:file3,12,full"}, {one, req(open, "d/f", "", wr|app|nonblock|nofollow|creat), "12 +1.12:file3,13,full"},
		{one, req(open, "d/f", "", wr|trunc), "12 -/d/f#3=hello +/d/f#3= +1.12:file3,1,full"}, {one, req(open, "d/f", "", both|trunc|creat), "12 -/d/f#3=hello +/d/f#3= +1.12:file3,2,full"},
		{one, req(open, "d/f", "", creat|excl), "EEXIST"}, {one, req(open, "d/f", "", creat|excl|wr|trunc), "EEXIST"}, {one, req(open, "d/f", "", excl), "12 +1.12:file3,0,full"}, {one, req(open, "d/f", "", creat), "12 +1.12:file3,0,full"},
		{one, req(open, "d/f", "", direct), "ENOTDIR"}, {one, req(open, "d/f", "", direct|wr|trunc), "ENOTDIR"}, {one, req(open, "d/f/", "", 0), "ENOTDIR"}, {one, req(open, "d/f/", "", creat|wr), "ENOTDIR"}, {one, req(open, "d/f/", "", creat|excl), "ENOTDIR"},
		// a directory
		{one, req(open, "d", "", 0), "12 +1.12:dir2,0,full"}, {one, req(open, "d/", "", direct), "12 +1.12:dir2,0,full"}, {one, req(open, "d", "", app|nonblock|excl|nofollow), "12 +1.12:dir2,12,full"}, {one, req(open, "/", "", 0), "12 +1.12:dir1,0,full"},
		{one, req(open, "d", "", wr), "EISDIR"}, {one, req(open, "d/", "", both), "EISDIR"}, {one, req(open, "d", "", creat), "EISDIR"}, {one, req(open, "d", "", wr|trunc|direct), "EISDIR"}, {one, req(open, ".", "", both), "EISDIR"}, {one, req(open, "/", "", creat), "EISDIR"},
		{one, req(open, "d", "", creat|excl), "EEXIST"}, {one, req(open, "d/", "", creat|excl|wr), "EEXIST"}, {one, req(open, "/", "", creat|excl), "EEXIST"}, {one, req(open, "..", "", creat|excl), "EEXIST"},
		// a symlink to a file
		{two, req(open, "in", "", 0), "12 +2.12:file3,0,full"}, {two, req(open, "in", "", both|trunc), "12 -/d/f#3=hello +/d/f#3= +2.12:file3,2,full"}, {two, req(open, "in", "", creat), "12 +2.12:file3,0,full"}, {two, req(open, "in", "", direct), "ENOTDIR"}, {two, req(open, "in/", "", 0), "ENOTDIR"},
		{two, req(open, "in", "", nofollow), "ELOOP"}, {two, req(open, "in", "", nofollow|wr|trunc), "ELOOP"}, {two, req(open, "in", "", nofollow|creat), "ELOOP"}, {two, req(open, "in", "", nofollow|direct), "ELOOP"},
		{two, req(open, "in", "", creat|excl), "EEXIST"}, {two, req(open, "in", "", creat|excl|nofollow|wr), "EEXIST"}, {two, req(open, "in", "", excl|nofollow), "ELOOP"}, {two, req(open, "in/", "", creat|excl), "ENOTDIR"},
		// a symlink to a directory
		{two, req(open, "sub", "", 0), "12 +2.12:dir4,0,full"}, {two, req(open, "sub", "", direct), "12 +2.12:dir4,0,full"}, {two, req(open, "sub", "", nofollow), "ELOOP"}, {two, req(open, "sub", "", direct|nofollow), "ELOOP"}, {two, req(open, "sub/", "", nofollow), "12 +2.12:dir4,0,full"},
		{two, req(open, "sub", "", wr), "EISDIR"}, {two, req(open, "sub/", "", creat), "EISDIR"}, {two, req(open, "sub", "", creat|excl), "EEXIST"}, {two, req(open, "sub/", "", creat|excl), "EEXIST"}, {two, req(open, "sub/.", "", nofollow), "12 +2.12:dir4,0,full"},
		// a symlink to nothing
		{two, req(open, "new", "", 0), "ENOENT"}, {two, req(open, "new", "", creat), "12 +/d/none#16= +2.12:file16,0,full"}, {two, req(open, "new", "", nofollow), "ELOOP"}, {two, req(open, "new", "", creat|nofollow), "ELOOP"}, {two, req(open, "new", "", creat|excl), "EEXIST"},
		{two, req(open, "new/", "", creat), "EISDIR"}, {two, req(open, "new/", "", creat|excl|nofollow), "EISDIR"}, {two, req(open, "new/", "", 0), "ENOENT"}, {two, req(open, "new/a", "", creat), "ENOENT"},
		// symlinks that go on and on, out and back
		{one, req(open, "o", "", 0), "ELOOP"}, {one, req(open, "o", "", creat|wr), "ELOOP"}, {one, req(open, "o", "", nofollow), "ELOOP"}, {one, req(open, "o", "", creat|excl), "EEXIST"}, {one, req(open, "l/abs", "", wr|trunc), "12 -/f#12=x +/f#12= +1.12:file12,1,full"},
		// a socket's name
		{two, req(open, "s", "", 0), "EOPNOTSUPP"}, {two, req(open, "s", "", creat|wr|trunc), "EOPNOTSUPP"}, {two, req(open, "s", "", direct), "EOPNOTSUPP"}, {two, req(open, "s", "", nofollow), "EOPNOTSUPP"}, {two, req(open, "s", "", creat|excl), "EEXIST"}, {two, req(open, "s/", "", 0), "ENOTDIR"},
	})
}

// P18.3: openat as open, with the same words, from a directory.
func TestOpenat(t *testing.T) {
	rowsOf(t, []row{
		{capable, req(openat, "a", "", full, creat|wr), "12 +/d/a#16= +3.12:file16,1,full"}, {capable, req(openat, "a/", "", full, creat|wr), "EISDIR"}, {capable, req(openat, "e", "", full, wr), "EISDIR"}, {capable, req(openat, "f", "", full, direct), "ENOTDIR"},
		{capable, req(openat, "f", "", full, creat|excl), "EEXIST"}, {capable, req(openat, "in", "", full, nofollow), "ELOOP"}, {capable, req(openat, "in", "", full, 0), "12 +3.12:file3,0,full"}, {capable, req(openat, "s", "", full, 0), "EOPNOTSUPP"},
		{capable, req(openat, "new", "", full, creat|both|app), "12 +/d/none#16= +3.12:file16,10,full"}, {capable, req(openat, "f", "", full, both|trunc), "12 -/d/f#3=hello +/d/f#3= +3.12:file3,2,full"}, {capable, req(openat, "new", "", full, creat|excl), "EEXIST"},
		{capable, req(openat, "up", "", full, nofollow), "ELOOP"}, {capable, req(openat, "up", "", full, creat|excl), "EEXIST"}, {capable, req(openat, "abs", "", full, nofollow|wr|trunc), "ELOOP"}, {capable, req(openat, "up", "", full, 0), "ENOTCAPABLE"},
	})
}

// fills opens the root till that process has no more than so many descriptors free.
func fills(t *testing.T, w *world.World, pid, left int) {
	t.Helper()
	for w.Slots(pid).Room() > left {
		if w.Open(pid, api.KDir, 1, 0, slots.Full(1)) < 0 {
			t.Fatal("no room")
		}
	}
}

// floods opens the root by all processes but the first one, till there is room for no more than so many open files.
func floods(t *testing.T, w *world.World, left int) {
	t.Helper()
	for pid := two; w.Files().Room() > left; {
		if w.Open(pid, api.KDir, 1, 0, slots.Full(1)) >= 0 {
			continue
		}
		if pid++; pid == ended {
			t.Fatal("no room")
		}
	}
}

// crowds makes files in the directory e till there is room for no more than so many inodes.
func crowds(t *testing.T, w *world.World, left int) {
	t.Helper()
	for i := 0; ; i++ {
		if room, _ := w.FS().Room(); room <= left {
			return
		}
		_, e := w.FS().Create(4, fmt.Sprint("x", i), api.KFile, "")
		must(t, "create", e)
	}
}

// packs gives a directory entries till it has no more room than for so many.
func packs(t *testing.T, w *world.World, dir, left int) {
	t.Helper()
	st, _ := w.FS().Stat(dir)
	for i := st.Size; i < api.MaxEntries-left; i++ {
		_, e := w.FS().Create(dir, fmt.Sprint("y", i), api.KSymlink, "y")
		must(t, "create", e)
	}
}

// wide are limits that no directory's entries come to.
var wide = api.Limits{Procs: 5, Fds: 15, Files: 20, Inodes: 200, Blocks: 9, Pipe: 8, Sock: 8}

// outcomes does each call in a scene that is filled, and says what comes of each.
func outcomes(t *testing.T, l api.Limits, fill func(w *world.World), rows []row) {
	t.Helper()
	for _, x := range rows {
		w := sceneOf(t, l)
		fill(w)
		if got := outcome(w, x.pid, x.r); got != x.want {
			t.Errorf("%d: %v: %s, not %s", x.pid, x.r, got, x.want)
		}
	}
}

// P18.3: without room nothing is opened, made or cut, and what else is wrong is told ahead.
func TestOpenWithoutRoom(t *testing.T) {
	calls := func(kind func(made bool) string) []row {
		return []row{
			{one, req(open, "f", "", 0), kind(false)}, {one, req(open, "d", "", direct), kind(false)}, {one, req(open, "f", "", wr|trunc), kind(false)}, {one, req(open, "a", "", creat), kind(true)}, {one, req(open, "l/new", "", creat|wr), kind(true)},
			{one, req(openat, "f", "", full, both|trunc), kind(false)}, {one, req(openat, "a", "", most, creat|excl|both), kind(true)},
			{one, req(open, "a", "", 0), "ENOENT"}, {one, req(open, "a/", "", creat), "EISDIR"}, {one, req(open, "f", "", creat|excl), "EEXIST"}, {one, req(open, "o", "", nofollow), "ELOOP"}, {one, req(open, "d/s", "", 0), "EOPNOTSUPP"}, {one, req(open, "d", "", wr), "EISDIR"},
			{one, req(open, "f", "", direct), "ENOTDIR"}, {one, req(openat, "f", "", aFile, 0), "ENOTDIR"}, {one, req(openat, "f", "", lookup, 0), "ENOTCAPABLE"}, {one, req(openat, "f", "", -1, 0), "EBADF"}, {one, req(openat, "../f", "", most, 0), "ENOTCAPABLE"},
		}
	}
	always := func(name string) func(bool) string { return func(bool) string { return name } }
	outcomes(t, some, func(w *world.World) { fills(t, w, one, 0) }, calls(always("EMFILE")))
	outcomes(t, some, func(w *world.World) { floods(t, w, 0) }, calls(always("ENFILE")))
	outcomes(t, some, func(w *world.World) { fills(t, w, one, 0); floods(t, w, 0) }, calls(always("EMFILE")))
	outcomes(t, some, func(w *world.World) { fills(t, w, one, 0); crowds(t, w, 0) }, calls(always("EMFILE")))
	outcomes(t, some, func(w *world.World) { floods(t, w, 0); crowds(t, w, 0) }, calls(always("ENFILE")))
	outcomes(t, some, func(w *world.World) { crowds(t, w, 0) }, []row{
		{one, req(open, "a", "", creat|wr), "ENOSPC"}, {one, req(open, "d/e/a", "", creat), "ENOSPC"}, {one, req(open, "f", "", creat|wr), "12 +1.12:file12,1,full"}, {one, req(openat, "a", "", full, creat), "ENOSPC"}, {one, req(open, "l/new", "", creat), "ENOSPC"},
	})
	outcomes(t, some, func(w *world.World) { fills(t, w, one, 1); floods(t, w, 1); crowds(t, w, 1) }, []row{
		{one, req(open, "a", "", creat|wr), "14 +/a#20= +1.14:file20,1,full"}, {one, req(openat, "a", "", full, creat|wr|trunc|excl), "14 +/d/a#20= +1.14:file20,1,full"}, {one, req(open, "f", "", 0), "14 +1.14:file12,0,full"},
	})
	outcomes(t, wide, func(w *world.World) { packs(t, w, 2, 0) }, []row{
		{one, req(open, "d/a", "", creat|wr), "ENOSPC"}, {one, req(openat, "a", "", full, creat|wr|excl), "ENOSPC"}, {one, req(open, "d/new", "", creat), "ENOSPC"}, {one, req(open, "d/f", "", creat), "12 +1.12:file3,0,full"}, {one, req(openat, "e/a", "", full, creat), "12 +/d/e/a#72= +1.12:file72,0,full"},
	})
	outcomes(t, wide, func(w *world.World) { packs(t, w, 2, 1) }, []row{{one, req(open, "d/a", "", creat|wr), "12 +/d/a#71= +1.12:file71,1,full"}})
}

// P18.3: what is told is the least free number, also between others, and each process has its own.
func TestLeastFree(t *testing.T) {
	w := scene(t)
	for _, fd := range []int{aPipe, root, reads} {
		must(t, "close", w.Close(one, fd))
	}
	for i, x := range []row{
		{one, req(open, "f", "", 0), "0 +1.0:file12,0,full"}, {one, req(openat, "e", "", full, 0), "7 +1.7:dir4,0,full"}, {one, req(open, "f", "", 0), "11 +1.11:file12,0,full"}, {one, req(open, "f", "", 0), "12 +1.12:file12,0,full"},
		{two, req(open, "f", "", 0), "12 +2.12:file3,0,full"}, {capable, req(openat, "f", "", root, 0), "12 +3.12:file12,0,full"},
	} {
		if got := outcome(w, x.pid, x.r); got != x.want {
			t.Errorf("%d: %s, not %s", i, got, x.want)
		}
	}
}

// landing tells what paths come to in a scene, from d: without going through a last symlink, and through all. A number below 0 is an error's; of 0 there is none, but can be.
var landing = map[string][2]int{
	"a": {0, 0}, "f": {3, 3}, "e": {4, 4}, "in": {6, 3}, "sub": {7, 4}, "new": {8, 0}, "up": {9, 12}, "abs": {10, 12}, "s": {11, 11}, "/o": {14, -62}, "../l": {13, 2},
	"a/": {0, 0}, "f/": {-20, -20}, "e/": {4, 4}, "in/": {-20, -20}, "sub/": {4, 4}, "new/": {0, 0}, "up/": {-20, -20}, "abs/": {-20, -20}, "s/": {-20, -20}, "/o/": {-62, -62}, "../l/": {2, 2},
	".": {2, 2}, "..": {1, 1}, "/": {1, 1}, "e/g": {5, 5}, "sub/g": {5, 5}, "e/a": {0, 0}, "sub/a": {0, 0}, "a/b": {-2, -2}, "f/b": {-20, -20}, "sub/.": {4, 4}, "new/.": {-2, -2},
}

// makings are the names that those of landing have of which there is none.
var makings = map[string]string{"a": "/d/a", "new": "/d/none", "e/a": "/d/e/a", "sub/a": "/d/e/a"}

// cuts is what changes if files of the tree are cut.
var cuts = map[int]string{3: "-/d/f#3=hello +/d/f#3= ", 5: "", 12: "-/f#12=x +/f#12= "}

// wants is P18.3, word by word: what comes of open by the process two with these flags, of a path of landing, where there is room.
func wants(flags int, path string) string {
	has := func(f int) bool { return flags&f > 0 }
	through := 1
	if has(nofollow) || has(creat) && has(excl) {
		through = 0
	}
	ino, kind := landing[path][through], api.KDir
	if ino > 1 {
		kind = tree[ino].kind
	}
	told := "dir"
	if kind == api.KFile {
		told = "file"
	}
	opened := fmt.Sprintf("+2.12:%s%d,%d,full", told, ino, flags&(wr|both|nonblock|app))
	switch {
	case ino < 0:
		return names[api.Errno(-ino)]
	case ino == 0 && !has(creat):
		return "ENOENT"
	case ino == 0 && strings.HasSuffix(path, "/"):
		return "EISDIR"
	case ino == 0:
		return fmt.Sprintf("12 +%s#16= +2.12:file16,%d,full", makings[path], flags&(wr|both|nonblock|app))
	case has(creat) && has(excl):
		return "EEXIST"
	case kind == api.KSymlink:
		return "ELOOP"
	case kind == api.KBound:
		return "EOPNOTSUPP"
	case kind == api.KDir && (has(wr) || has(both) || has(creat)):
		return "EISDIR"
	case kind == api.KFile && has(direct):
		return "ENOTDIR"
	case kind == api.KFile && has(trunc):
		return "12 " + cuts[ino] + opened
	}
	return "12 " + opened
}

// P18.3: all flags that there are, on all that open may be asked for, by open and by openat.
func TestOpenWithAllFlags(t *testing.T) {
	bits := []int{wr, both, nonblock, app, nofollow, creat, trunc, excl, direct}
	w := scene(t)
	for set := range 1 << len(bits) {
		flags := 0
		for i, b := range bits {
			if set>>i&1 > 0 {
				flags |= b
			}
		}
		can := flags&3 != 3 && (flags&trunc == 0 || flags&3 != 0) && flags&(creat|direct) != creat|direct
		for path := range landing {
			want := "EINVAL"
			if can {
				want = wants(flags, path)
			} else if path != "a" && path != "f" { // Gate refuses it ahead of the path
				continue
			}
			for i, r := range []api.Req{req(open, path, "", flags), req(openat, path, "", full, flags)} {
				got := outcome(w, two, r)
				if got != want {
					t.Errorf("open %s with %x, in way %d: %s, not %s", path, flags, i, got, want)
				}
				if strings.HasPrefix(got, "12") {
					w = scene(t)
				}
			}
		}
	}
}
