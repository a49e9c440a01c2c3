package ipccalls

import (
	"fmt"
	"slices"
	"strings"
	"testing"

	"purlieu/api"
	"purlieu/slots"
	"purlieu/world"
)

// P20.2: what is made, whoever makes it, in capability mode or not: with the flags that are asked for, and all rights.
func TestMade(t *testing.T) {
	for _, pid := range []int{first, second, capable} {
		at := func(line string) string { return strings.ReplaceAll(line, "P.", fmt.Sprint(pid, ".")) }
		rowsOf(t, pid, asIs, []row{
			{req(pipe, ""), at("26 [26 27] +pipe2,0x1 +pipe2,1x1 +p2,true,true= +P.26:pipe2,0 +P.27:pipe2,1")},
			{req(pipe, "", nonblock), at("26 [26 27] +pipe2,4x1 +pipe2,5x1 +p2,true,true= +P.26:pipe2,4 +P.27:pipe2,5")},
			{req(socket, ""), at("26 +sock25,2x1 +s25 +P.26:sock25,2")},
			{req(socket, "", nonblock), at("26 +sock25,6x1 +s25 +P.26:sock25,6")},
			{req(socketpair, ""), at("26 [26 27] +sock25,2x1 +sock26,2x1 +s25-26 +s26-25 +P.26:sock25,2 +P.27:sock26,2")},
			{req(socketpair, "", nonblock), at("26 [26 27] +sock25,6x1 +sock26,6x1 +s25-26 +s26-25 +P.26:sock25,6 +P.27:sock26,6")},
		})
	}
}

// P20.2: the least free descriptors are taken; what is made a second time has numbers of its own.
func TestMadeAgain(t *testing.T) {
	holes := func(w *world.World) {
		for _, fd := range []int{dir, pipeR, left} {
			must(t, "close", w.Close(first, fd))
		}
	}
	inTurn(t, holes, []row{
		{req(pipe, ""), "1 [1 4] +pipe2,0x1 +pipe2,1x1 +p2,true,true= +1.1:pipe2,0 +1.4:pipe2,1"},
		{req(pipe, "", nonblock), "17 [17 26] +pipe3,4x1 +pipe3,5x1 +p3,true,true= +1.17:pipe3,4 +1.26:pipe3,5"},
		{req(socketpair, ""), "27 [27 28] +sock25,2x1 +sock26,2x1 +s25-26 +s26-25 +1.27:sock25,2 +1.28:sock26,2"},
		{req(socket, ""), "29 +sock27,2x1 +s27 +1.29:sock27,2"},
		{req(socket, ""), "30 +sock28,2x1 +s28 +1.30:sock28,2"},
		{req(socketpair, ""), "EMFILE"}, {req(pipe, ""), "EMFILE"},
		{req(socket, ""), "31 +sock29,2x1 +s29 +1.31:sock29,2"},
		{req(socket, ""), "EMFILE"},
	})
}

// P20.2: with no room for the descriptors, or for the open files, nothing is made: and no number is used up.
func TestRoomToMake(t *testing.T) {
	for fds := range 4 {
		for files := range 4 {
			for no, needs := range map[int]int{pipe: 2, socket: 1, socketpair: 2} {
				for _, k := range []int{0, nonblock} {
					want := ""
					switch {
					case fds < needs:
						want = "EMFILE"
					case files < needs:
						want = "ENFILE"
					}
					w := scene(t)
					spare(t, w, second, fds, files)
					got := outcome(w, second, req(no, "", k))
					if want != "" && got != want || want == "" && strings.HasPrefix(got, "E") {
						t.Errorf("%d, %d descriptors and %d open files free: %s, not %s", no, fds, files, got, want)
					}
				}
			}
		}
	}
}

// P20.2: what is made can be used: a pipe's ends are apart, sockets are joined to each other.
func TestMadeIsUsed(t *testing.T) {
	w := world.New(some)
	for _, x := range []api.Req{req(pipe, ""), req(socketpair, "")} {
		if y := Call(w, first, x); y.Err != api.OK || !slices.Equal(y.L, []int{y.Val, y.Val + 1}) {
			t.Fatal(y)
		}
	}
	if reads, writes := w.Ends(1); !reads || !writes {
		t.Error(reads, writes)
	}
	must(t, "close", w.Close(first, 0))
	if reads, writes := w.Ends(1); reads || !writes {
		t.Error("the first descriptor is not the reading end")
	}
	for _, x := range []row{{sends(2, "ab"), "2 -s2-1 +s2-1=ab+0"}, {sends(3, "c"), "1 -s1-2 +s1-2=c+0"}, {req(recv, "", 2, 9), "1 c -s1-2=c+0 +s1-2"}, {req(recv, "", 3, 9), "2 ab -s2-1=ab+0 +s2-1"}} {
		if got := outcome(w, first, x.r); got != x.want {
			t.Errorf("%v: %s, not %s", x.r, got, x.want)
		}
	}
}

// P20.3: bind of each descriptor: just what is fresh, and not bound, can be.
func TestBind(t *testing.T) {
	want := map[int]string{fresh: "0 -s1 +i18:name,1,0 +1/x=18 +s1*18", freshN: "0 -s2 +i18:name,1,0 +1/x=18 +s2*18"}
	eachOf(t, asIs, req(bind, "x"), "EINVAL", want)
	eachOf(t, asIs, req(bindat, "x", root), "EINVAL", want)
	eachOf(t, asIs, req(bindat, "x", cwd), "EINVAL", want)
	want = map[int]string{fresh: "0 -s1 +i18:name,1,0 +2/x=18 +s1*18", freshN: "0 -s2 +i18:name,1,0 +2/x=18 +s2*18"}
	eachOf(t, asIs, req(bindat, "x", dir), "EINVAL", want)
	eachOf(t, asIs, req(bind, "none/x"), "EINVAL", map[int]string{fresh: "ENOENT", freshN: "ENOENT"})
	eachOf(t, asIs, req(bindat, "x", gone), "EINVAL", map[int]string{fresh: "ENOENT", freshN: "ENOENT"})
}

// name answers a name of so many bytes.
func name(n int) string { return strings.Repeat("n", n) }

// P20.3: where a name can be made, and why not.
func TestBindPaths(t *testing.T) {
	made := func(dir int, name string) string {
		return fmt.Sprintf("0 -s1 +i18:name,1,0 +%d/%s=18 +s1*18", dir, name)
	}
	for _, x := range []struct {
		path, fromRoot, fromD, beneath string // beneath: from d's number, out of which nothing goes
	}{
		{"x", made(1, "x"), made(2, "x"), made(2, "x")},
		{"./x", made(1, "x"), made(2, "x"), made(2, "x")},
		{"d/x", made(2, "x"), "ENOENT", "ENOENT"},
		{"e/x", "ENOENT", made(15, "x"), made(15, "x")},
		{"d/e/x", made(15, "x"), "ENOENT", "ENOENT"},
		{"dot/x", "ENOENT", made(15, "x"), made(15, "x")},
		{"d/dot//x", made(15, "x"), "ENOENT", "ENOENT"},
		{"../x", made(1, "x"), made(1, "x"), "ENOTCAPABLE"},
		{"e/../x", "ENOENT", made(2, "x"), "ENOTCAPABLE"},
		{"/x", made(1, "x"), made(1, "x"), "ENOTCAPABLE"},
		{"/d/x", made(2, "x"), made(2, "x"), "ENOTCAPABLE"},
		{"/d", "EADDRINUSE", "EADDRINUSE", "ENOTCAPABLE"},
		{"...", made(1, "..."), made(2, "..."), made(2, "...")},
		{name(32), made(1, name(32)), made(2, name(32)), made(2, name(32))},
		{name(33), "ENAMETOOLONG", "ENAMETOOLONG", "ENAMETOOLONG"},
		{strings.Repeat("./", 127) + "xy", made(1, "xy"), made(2, "xy"), made(2, "xy")},
		{strings.Repeat("./", 128) + "x", "ENAMETOOLONG", "ENAMETOOLONG", "ENAMETOOLONG"},
		{"", "ENOENT", "ENOENT", "ENOENT"},
		{"x\x00", "EINVAL", "EINVAL", "EINVAL"},
		{"none/x", "ENOENT", "ENOENT", "ENOENT"},
		{"x/", "ENOENT", "ENOENT", "ENOENT"},
		{"x//", "ENOENT", "ENOENT", "ENOENT"},
		{".", "EADDRINUSE", "EADDRINUSE", "EADDRINUSE"},
		{"./", "EADDRINUSE", "EADDRINUSE", "EADDRINUSE"},
		{"..", "EADDRINUSE", "EADDRINUSE", "ENOTCAPABLE"},
		{"/", "EADDRINUSE", "EADDRINUSE", "ENOTCAPABLE"},
		{"d", "EADDRINUSE", made(2, "d"), made(2, "d")},
		{"d/", "EADDRINUSE", "ENOENT", "ENOENT"},
		{"d/e/", "EADDRINUSE", "ENOENT", "ENOENT"},
		{"f", made(1, "f"), "EADDRINUSE", "EADDRINUSE"},
		{"f/", "ENOENT", "ENOTDIR", "ENOTDIR"},
		{"f/x", "ENOENT", "ENOTDIR", "ENOTDIR"},
		{"d/f/x", "ENOTDIR", "ENOENT", "ENOENT"},
		{"d/s", "EADDRINUSE", "ENOENT", "ENOENT"},
		{"s", made(1, "s"), "EADDRINUSE", "EADDRINUSE"},
		{"s/", "ENOENT", "ENOTDIR", "ENOTDIR"},
		{"s/x", "ENOENT", "ENOTDIR", "ENOTDIR"},
		{"b", made(1, "b"), "EADDRINUSE", "EADDRINUSE"},
		{"lost", made(1, "lost"), "EADDRINUSE", "EADDRINUSE"},
		{"in", made(1, "in"), "EADDRINUSE", "EADDRINUSE"},
		{"new", made(1, "new"), "EADDRINUSE", "EADDRINUSE"}, // the symlink is there, if what it leads to is not
		{"new/", "ENOENT", "ENOENT", "ENOENT"},              // it is gone through, and no directory's name is made
		{"new/x", "ENOENT", "ENOENT", "ENOENT"},
		{"loop", made(1, "loop"), "EADDRINUSE", "EADDRINUSE"},
		{"loop/", "ENOENT", "ELOOP", "ELOOP"},
		{"loop/x", "ENOENT", "ELOOP", "ELOOP"},
		{"abs/x", "ENOENT", "ENOTDIR", "ENOTCAPABLE"},
		{"up/x", "ENOENT", "ENOTDIR", "ENOTCAPABLE"},
		{"dot/", "ENOENT", "EADDRINUSE", "EADDRINUSE"},
		{"gone/x", "ENOENT", "ENOENT", "ENOENT"},
		{"gone", made(1, "gone"), made(2, "gone"), made(2, "gone")},
	} {
		rowsOf(t, first, asIs, []row{{req(bind, x.path, fresh), x.fromRoot}, {req(bindat, x.path, root, fresh), x.fromRoot}, {req(bindat, x.path, cwd, fresh), x.fromRoot}, {req(bindat, x.path, dir, fresh), x.fromD}})
		rowsOf(t, second, asIs, []row{{req(bind, x.path, fresh), x.fromD}, {req(bindat, x.path, cwd, fresh), x.fromD}, {req(bindat, x.path, root, fresh), x.fromRoot}})
		rowsOf(t, capable, asIs, []row{{req(bindat, x.path, dir, fresh), x.beneath}})
		rowsOf(t, first, less, []row{{req(bindat, x.path, dir, fresh), x.beneath}, {req(bind, x.path, fresh), x.fromRoot}})
	}
}

// less takes a right from d's descriptor that no call of the chapter needs.
func less(w *world.World) { w.Slots(first).Limit(dir, api.CapAll&^api.CapFsync) }

// P20.3: where the directory in which the process is, or the one that is held, is gone, no name can be made.
func TestBindNowhere(t *testing.T) {
	lost := func(w *world.World) {
		ino, e := w.FS().Create(1, "t", api.KDir, "")
		must(t, "create", e)
		must(t, "move", w.Move(first, ino))
		must(t, "rmdir", w.FS().Rmdir(1, "t"))
	}
	rowsOf(t, first, lost, []row{
		{req(bind, "x", fresh), "ENOENT"}, {req(bind, ".", fresh), "ENOENT"}, {req(bind, "../x", fresh), "ENOENT"}, {req(bind, "/x", fresh), "0 -s1 +i19:name,1,0 +1/x=19 +s1*19"},
		{req(bindat, "x", gone, fresh), "ENOENT"}, {req(bindat, ".", gone, fresh), "ENOENT"}, {req(bindat, "/x", gone, fresh), "0 -s1 +i19:name,1,0 +1/x=19 +s1*19"}, {req(bind, "x", one), "EINVAL"},
	})
}

// P20.3: where there is no room for an inode, or in the directory, the socket stays as it is.
func TestBindRoom(t *testing.T) {
	inTurn(t, asIs, []row{
		{req(bind, "x", fresh), "0 -s1 +i18:name,1,0 +1/x=18 +s1*18"},
		{req(bind, "y", fresh), "EINVAL"},
		{req(bindat, "x", dir, freshN), "0 -s2 +i19:name,1,0 +2/x=19 +s2*19"},
		{req(socket, ""), "26 +sock25,2x1 +s25 +1.26:sock25,2"},
		{req(bind, "y", 26), "ENOSPC"}, {req(bindat, "e/y", dir, 26), "ENOSPC"}, {req(bind, "x", 26), "EADDRINUSE"}, {req(bind, "y/", 26), "ENOENT"},
	})
	w := world.New(api.Limits{Procs: 1, Fds: 4, Files: 4, Inodes: 80, Blocks: 0, Pipe: 1, Sock: 1})
	for i := range api.MaxEntries {
		_, e := w.FS().Create(1, fmt.Sprint("f", i), api.KFile, "")
		must(t, "create", e)
	}
	for _, x := range []row{{req(socket, ""), "0 +sock1,2x1 +s1 +1.0:sock1,2"}, {req(bind, "x", 0), "ENOSPC"}, {req(bind, "f0", 0), "EADDRINUSE"}} {
		if got := outcome(w, first, x.r); got != x.want {
			t.Errorf("%v: %s, not %s", x.r, got, x.want)
		}
	}
	must(t, "unlink", w.FS().Unlink(1, "f7"))
	if got := outcome(w, first, req(bind, "x", 0)); got != "0 -s1 +i66:name,1,0 +1/x=66 +s1*66" {
		t.Error(got)
	}
}

// P20.3: a socket that was bound stays so when its name is gone, or it is joined.
func TestBoundStays(t *testing.T) {
	w := scene(t)
	must(t, "unlink", w.FS().Unlink(2, "b"))
	for _, x := range []row{
		{req(bind, "x", bound), "EINVAL"},
		{req(connect, "d/s", bound), "0 -s3*5 -s4*6~2[] +s3*5-25 +s4*6~2[25] +s25-3"},
		{req(bind, "x", bound), "EINVAL"}, {req(listen, "", bound, 1), "EINVAL"},
	} {
		if got := outcome(w, first, x.r); got != x.want {
			t.Errorf("%v: %s, not %s", x.r, got, x.want)
		}
	}
}

// P20.3: listen of each descriptor: what is bound, and not joined, listens from then on, or anew.
func TestListen(t *testing.T) {
	for _, x := range [][2]int{{0, 0}, {1, 1}, {2, 2}, {3, 3}, {7, 7}, {8, 8}, {9, 8}, {1 << 20, 8}} {
		n, most := x[0], x[1]
		want := map[int]string{bound: fmt.Sprintf("0 -s3*5 +s3*5~%d[]", most), door: fmt.Sprintf("0 -s4*6~2[] +s4*6~%d[]", most), doorN: fmt.Sprintf("0 -s5*7~1[] +s5*7~%d[]", most), busy: fmt.Sprintf("0 -s6*8~2[8 10] +s6*8~%d[8 10]", most)}
		if most == 1 {
			want[doorN] = "0"
		}
		if most == 2 {
			want[door], want[busy] = "0", "0"
		}
		eachOf(t, asIs, req(listen, "", 0, n), "EINVAL", want)
	}
}

// P20.3: a socket that listens with 0 lets none wait; one that listens anew lets those wait on that do.
func TestListenAnew(t *testing.T) {
	inTurn(t, asIs, []row{
		{req(listen, "", bound), "0 -s3*5 +s3*5~0[]"},
		{req(connect, "d/b", fresh), "ECONNREFUSED"},
		{req(accept, "", bound), "EWAIT"},
		{req(listen, "", bound, 1), "0 -s3*5~0[] +s3*5~1[]"},
		{req(connect, "d/b", fresh), "0 -s1 -s3*5~1[] +s1-25 +s3*5~1[25] +s25-1"},
		{req(listen, "", bound, 0), "0 -s3*5~1[25] +s3*5~0[25]"},
		{req(connect, "d/b", freshN), "ECONNREFUSED"},
		{req(accept, "", bound, 4), "26 -s3*5~0[25] +sock25,6x1 +s3*5~0[] +1.26:sock25,6"},
		{req(connect, "d/b", freshN), "ECONNREFUSED"},
	})
}

// P20.3: connect of each descriptor, with and without a directory's number.
func TestConnect(t *testing.T) {
	to := func(id int) string {
		return fmt.Sprintf("0 -s%d -s4*6~2[] +s%d-25 +s4*6~2[25] +s25-%d", id, id, id)
	}
	want := map[int]string{fresh: to(1), freshN: to(2), bound: "0 -s3*5 -s4*6~2[] +s3*5-25 +s4*6~2[25] +s25-3", door: "EOPNOTSUPP", doorN: "EOPNOTSUPP", busy: "EOPNOTSUPP"}
	eachOf(t, asIs, req(connect, "d/s"), "EISCONN", want)
	eachOf(t, asIs, req(connectat, "d/s", cwd), "EISCONN", want)
	eachOf(t, asIs, req(connectat, "s", dir), "EISCONN", want)
	refused := map[int]string{fresh: "ECONNREFUSED", freshN: "ECONNREFUSED", bound: "ECONNREFUSED", door: "EOPNOTSUPP", doorN: "EOPNOTSUPP", busy: "EOPNOTSUPP"}
	for _, path := range []string{"d/b", "d/w", "d/lost"} {
		eachOf(t, asIs, req(connect, path), "EISCONN", refused)
	}
	for path, e := range map[string]string{"d/f": "ENOTSOCK", "d": "ENOTSOCK", "none": "ENOENT", "": "ENOENT", "d/loop": "ELOOP", "d/f/": "ENOTDIR"} {
		eachOf(t, asIs, req(connect, path), e, nil)
	}
}

// P20.3: to what paths lead.
func TestConnectPaths(t *testing.T) {
	const goes, busyOne = "0 -s1 -s4*6~2[] +s1-25 +s4*6~2[25] +s25-1", "0 -s1 -s5*7~1[] +s1-25 +s5*7~1[25] +s25-1"
	for _, x := range []struct {
		path, fromRoot, fromD, beneath string // beneath: from d's number, out of which nothing goes
	}{
		{"s", "ENOENT", goes, goes},
		{"n", "ENOENT", busyOne, busyOne},
		{"d/s", goes, "ENOENT", "ENOENT"},
		{"./s", "ENOENT", goes, goes},
		{"/d/s", goes, goes, "ENOTCAPABLE"},
		{"../d/s", goes, goes, "ENOTCAPABLE"},
		{"e/../s", "ENOENT", goes, "ENOTCAPABLE"},
		{"in", "ENOENT", goes, goes},
		{"d/in", goes, "ENOENT", "ENOENT"},
		{"up", "ENOENT", goes, "ENOTCAPABLE"},
		{"d/up", goes, "ENOENT", "ENOENT"},
		{"abs", "ENOENT", goes, "ENOTCAPABLE"},
		{"d/abs", goes, "ENOENT", "ENOENT"},
		{"e/back", "ENOENT", goes, "ENOTCAPABLE"},
		{"dot/back", "ENOENT", goes, "ENOTCAPABLE"},
		{"new", "ENOENT", "ENOENT", "ENOENT"},
		{"d/new", "ENOENT", "ENOENT", "ENOENT"},
		{"loop", "ENOENT", "ELOOP", "ELOOP"},
		{"s/", "ENOENT", "ENOTDIR", "ENOTDIR"},
		{"in/", "ENOENT", "ENOTDIR", "ENOTDIR"},
		{"s/x", "ENOENT", "ENOTDIR", "ENOTDIR"},
		{"f", "ENOENT", "ENOTSOCK", "ENOTSOCK"},
		{"e", "ENOENT", "ENOTSOCK", "ENOTSOCK"},
		{"e/", "ENOENT", "ENOTSOCK", "ENOTSOCK"},
		{"dot", "ENOENT", "ENOTSOCK", "ENOTSOCK"},
		{".", "ENOTSOCK", "ENOTSOCK", "ENOTSOCK"},
		{"..", "ENOTSOCK", "ENOTSOCK", "ENOTCAPABLE"},
		{"/", "ENOTSOCK", "ENOTSOCK", "ENOTCAPABLE"},
		{"b", "ENOENT", "ECONNREFUSED", "ECONNREFUSED"},
		{"w", "ENOENT", "ECONNREFUSED", "ECONNREFUSED"},
		{"lost", "ENOENT", "ECONNREFUSED", "ECONNREFUSED"},
		{"", "ENOENT", "ENOENT", "ENOENT"},
		{"s\x00", "EINVAL", "EINVAL", "EINVAL"},
		{name(33), "ENAMETOOLONG", "ENAMETOOLONG", "ENAMETOOLONG"},
		{strings.Repeat("./", 127) + "in", "ENOENT", goes, goes},
		{strings.Repeat("./", 128) + "s", "ENAMETOOLONG", "ENAMETOOLONG", "ENAMETOOLONG"},
	} {
		rowsOf(t, first, asIs, []row{{req(connect, x.path, fresh), x.fromRoot}, {req(connectat, x.path, root, fresh), x.fromRoot}, {req(connectat, x.path, cwd, fresh), x.fromRoot}, {req(connectat, x.path, dir, fresh), x.fromD}})
		rowsOf(t, second, asIs, []row{{req(connect, x.path, fresh), x.fromD}, {req(connectat, x.path, cwd, fresh), x.fromD}, {req(connectat, x.path, root, fresh), x.fromRoot}})
		rowsOf(t, capable, asIs, []row{{req(connectat, x.path, dir, fresh), x.beneath}})
		rowsOf(t, first, less, []row{{req(connectat, x.path, dir, fresh), x.beneath}, {req(connect, x.path, fresh), x.fromRoot}})
	}
}

// P20.3: as many wait as may; then, or when the one that listens is gone, all others are refused. What is renamed, or has a second name, is still bound to.
func TestConnectUntilFull(t *testing.T) {
	rename := func(w *world.World) {
		must(t, "rename", w.FS().Rename(2, "s", 1, "t"))
		must(t, "link", w.FS().Link(15, "u", 6))
	}
	inTurn(t, rename, []row{
		{req(connect, "d/s", fresh), "ENOENT"}, {req(connect, "d/in", fresh), "ENOENT"},
		{req(connect, "t", fresh), "0 -s1 -s4*6~2[] +s1-25 +s4*6~2[25] +s25-1"},
		{req(connect, "t", fresh), "EISCONN"}, {req(connect, "d/e/u", fresh), "EISCONN"}, {req(connect, "d/lost", fresh), "EISCONN"}, {req(connect, "d", fresh), "ENOTSOCK"},
		{req(connectat, "e/u", dir, freshN), "0 -s2 -s4*6~2[25] +s2-26 +s4*6~2[25 26] +s26-2"},
		{req(connect, "t", bound), "ECONNREFUSED"},
		{req(accept, "", door), "26 -s4*6~2[25 26] +sock25,2x1 +s4*6~2[26] +1.26:sock25,2"},
		{req(connect, "t", bound), "0 -s3*5 -s4*6~2[26] +s3*5-27 +s4*6~2[26 27] +s27-3"},
		{req(socket, ""), "27 +sock28,2x1 +s28 +1.27:sock28,2"},
		{req(connect, "t", 27), "ECONNREFUSED"}, {req(connect, "d/n", 27), "0 -s5*7~1[] -s28 +s5*7~1[29] +s28-29 +s29-28"},
	})
	closed := func(w *world.World) {
		for pid := first; pid <= capable; pid++ {
			must(t, "close", w.Close(pid, door))
		}
	}
	rowsOf(t, first, closed, []row{{req(connect, "d/s", fresh), "ECONNREFUSED"}, {req(connect, "d/s", one), "EISCONN"}, {req(connect, "d/s", busy), "EOPNOTSUPP"}, {req(bind, "d/s", fresh), "EADDRINUSE"}})
	still := func(w *world.World) { must(t, "close", w.Close(first, door)) } // the others have it
	rowsOf(t, first, still, []row{{req(connect, "d/s", fresh), "0 -s1 -s4*6~2[] +s1-25 +s4*6~2[25] +s25-1"}})
}

// P20.3: a socket does not come to itself.
func TestConnectToItself(t *testing.T) {
	rowsOf(t, first, asIs, []row{{req(connect, "d/b", bound), "ECONNREFUSED"}, {req(connect, "d/s", door), "EOPNOTSUPP"}, {req(connect, "d/w", waiting), "EISCONN"}})
}

// P20.3: accept of each descriptor.
func TestAccept(t *testing.T) {
	for _, k := range []int{0, nonblock} {
		got := fmt.Sprintf("26 -s6*8~2[8 10] +sock8,%dx1 +s6*8~2[10] +1.26:sock8,%d", both|k, both|k)
		eachOf(t, asIs, req(accept, "", 0, k), "EINVAL", map[int]string{door: "EWAIT", doorN: "EAGAIN", busy: got})
	}
	swapped := func(w *world.World) {
		for fd, flags := range map[int]int{door: nonblock, doorN: 0, busy: nonblock} {
			_, f, _ := w.Look(first, fd, 0)
			must(t, "flags", w.Files().SetFlags(f.ID, flags))
		}
	}
	eachOf(t, swapped, req(accept, "", 0, 0), "EINVAL", map[int]string{door: "EAGAIN", doorN: "EWAIT", busy: "26 -s6*8~2[8 10] +sock8,2x1 +s6*8~2[10] +1.26:sock8,2"})
}

// P20.3: those that wait are accepted in their order, as they are by then: the first one's other end is gone, bytes and descriptors wait in the second one.
func TestAcceptInOrder(t *testing.T) {
	inTurn(t, asIs, []row{
		{sends(waiting, "hey", pipeW), "3 -pipe1,1x4 -s10-9 +pipe1,1x5 +s10-9=hey+1"},
		{req(accept, "", busy), "26 -s6*8~2[8 10] +sock8,2x1 +s6*8~2[10] +1.26:sock8,2"},
		{req(recv, "", 26, 9), "0"}, {sends(26, "a"), "EPIPE"},
		{req(accept, "", busy), "27 -s6*8~2[10] +sock10,2x1 +s6*8~2[] +1.27:sock10,2"},
		{req(accept, "", busy), "EWAIT"},
		{req(recv, "", 27, 9, 4), "3 hey [28] -s10-9=hey+1 +s10-9 +1.28:pipe1,1"},
		{req(recv, "", 27, 9, 4), "EWAIT"}, {sends(27, "a"), "1 -s9-10 +s9-10=a+0"}, {req(recv, "", waiting, 9, 4), "1 a -s9-10=a+0 +s9-10"},
		{req(connect, "d/w", 27), "EISCONN"}, {req(bind, "x", 27), "EINVAL"}, {req(accept, "", 27), "EINVAL"},
	})
}

// P20.3: with no room for the descriptor, or the open file, the first one waits on; where none waits, room plays no part.
func TestAcceptRoom(t *testing.T) {
	for fds := range 3 {
		for files := range 3 {
			want := "-s6*8~2[8 10]"
			switch {
			case fds == 0:
				want = "EMFILE"
			case files == 0:
				want = "ENFILE"
			}
			for fd, want := range map[int]string{busy: want, door: "EWAIT", doorN: "EAGAIN", one: "EINVAL"} {
				w := scene(t)
				spare(t, w, first, fds, files)
				if got := outcome(w, first, req(accept, "", fd)); !strings.Contains(got, want) {
					t.Errorf("%d, %d descriptors and %d open files free: %s, not %s", fd, fds, files, got, want)
				}
			}
		}
	}
}

// P20.3: what is accepted through a descriptor with few rights has all of them, in capability mode, too.
func TestAcceptedHasAll(t *testing.T) {
	limit := func(w *world.World) {
		for _, pid := range []int{first, capable} {
			must(t, "limit", w.Slots(pid).Limit(busy, api.CapAccept))
		}
	}
	rowsOf(t, first, limit, []row{{req(accept, "", busy), "26 -s6*8~2[8 10] +sock8,2x1 +s6*8~2[10] +1.26:sock8,2"}})
	rowsOf(t, capable, limit, []row{{req(accept, "", busy), "26 -s6*8~2[8 10] +sock8,2x1 +s6*8~2[10] +3.26:sock8,2"}})
}

// P20.3: shutdown of each descriptor with each how; a second time it is as it was.
func TestShutdown(t *testing.T) {
	lines := map[int]string{waiting: "s9-10", one: "s11-12", two: "s12-11", sent: "s13-14=abc+2,de+1", full: "s14-13=12345678+0", left: "s15-0=xy+1", alone: "s17-0", shutR: "s19-20!r", talks: "s20-19", shutW: "s21-22!w", hears: "s22-21", oneN: "s23-24", twoN: "s24-23"}
	for how := range 3 {
		want := map[int]string{}
		for fd, line := range lines {
			id, parts, _ := strings.Cut(line, "=")
			is := strings.Split(id, "!")[0]
			if how != 1 || fd == shutR {
				is += "!r"
			}
			if how != 0 || fd == shutW {
				is += "!w"
			}
			if how == 1 && parts != "" {
				is += "=" + parts
			}
			want[fd] = "0 -" + line + " +" + is
			if is == line {
				want[fd] = "0"
			}
		}
		if how != 1 {
			want[sent] = strings.NewReplacer("0 -", "0 -dir2,0x4 -file4,2x4 -pipe1,1x4 -", " +", " +dir2,0x3 +file4,2x3 +pipe1,1x3 +").Replace(want[sent])
			want[left] = strings.NewReplacer("0 -", "0 -proc2,0x4 -", " +", " +proc2,0x3 +").Replace(want[left])
		}
		eachOf(t, asIs, req(shutdown, "", 0, how), "ENOTCONN", want)
		again := map[int]string{}
		for fd := range lines {
			again[fd] = "0"
		}
		twice := func(w *world.World) {
			for fd := range lines {
				if x := Call(w, first, req(shutdown, "", fd, how)); x.Err != api.OK {
					t.Fatal(x)
				}
			}
		}
		eachOf(t, twice, req(shutdown, "", 0, how), "ENOTCONN", again)
	}
}

// P20.3: what nobody can receive any more is let go of: what just waited there is closed.
func TestShutdownDrops(t *testing.T) {
	last := func(w *world.World) {
		for _, x := range []api.Req{req(pipe, ""), sends(one, "p", 26, 27)} {
			if y := Call(w, first, x); y.Err != api.OK {
				t.Fatal(y)
			}
		}
		must(t, "close", w.Close(first, 26))
		must(t, "close", w.Close(first, 27))
	}
	rowsOf(t, first, last, []row{
		{req(shutdown, "", two, 0), "0 -pipe2,0x1 -pipe2,1x1 -p2,true,true= -s12-11=p+2 +s12-11!r"},
		{req(shutdown, "", two, 1), "0 -s12-11=p+2 +s12-11!w=p+2"},
		{req(shutdown, "", two, 2), "0 -pipe2,0x1 -pipe2,1x1 -p2,true,true= -s12-11=p+2 +s12-11!r!w"},
		{req(shutdown, "", one, 2), "0 -s11-12 +s11-12!r!w"},
	})
	itself := func(w *world.World) { // the last descriptor of the process that calls
		must(t, "close", w.Close(capable, proc))
		must(t, "close", w.Close(second, proc))
		if x := Call(w, first, sends(one, "p", proc)); x.Err != api.OK {
			t.Fatal(x)
		}
		must(t, "close", w.Close(first, proc))
		Call(w, first, req(recv, "", left, 2, 0))
	}
	w := scene(t)
	itself(w)
	if x := Call(w, second, req(shutdown, "", two, 0)); x.Err != api.OK || w.Procs().Lives(second) {
		t.Error(x, w.Procs().Lives(second))
	}
}

// P20.3: behind a shutdown nothing is sent or received there any more.
func TestShut(t *testing.T) {
	for how, want := range [][4]string{{"EPIPE", "0", "1 -s12-11=b+0 +s12-11=ba+0", "1 b -s12-11=b+0 +s12-11"}, {"1 -s11-12!w +s11-12!w=a+0", "EWAIT", "EPIPE", "1 b -s12-11=b+0 +s12-11"}, {"EPIPE", "0", "EPIPE", "1 b -s12-11=b+0 +s12-11"}} {
		shut := func(w *world.World) {
			if x := Call(w, first, sends(one, "b")); x.Err != api.OK {
				t.Fatal(x)
			}
			if x := Call(w, first, req(shutdown, "", one, how)); x.Err != api.OK {
				t.Fatal(x)
			}
		}
		rowsOf(t, first, shut, []row{{sends(two, "a"), want[0]}, {req(recv, "", one, 9), want[1]}, {sends(one, "a"), want[2]}, {req(recv, "", two, 9), want[3]}})
	}
	rowsOf(t, first, asIs, []row{
		{sends(talks, "a"), "EPIPE"}, {req(recv, "", shutR, 9), "0"}, {sends(shutR, "a"), "1 -s20-19 +s20-19=a+0"}, {sends(shutW, "a"), "EPIPE"}, {req(recv, "", hears, 9), "0"}, {sends(hears, "a"), "1 -s21-22!w +s21-22!w=a+0"},
	})
}

// P20.1: of a socket that is not there calls tell what socks tells, and change nothing.
func TestNoSocket(t *testing.T) {
	w := scene(t)
	if fd := w.Open(first, api.KSock, 99, both, slots.Full(1)); fd != free {
		t.Fatal(fd)
	}
	for _, r := range []api.Req{req(bind, "x", free), req(listen, "", free, 1), req(connect, "d/s", free), req(accept, "", free), req(shutdown, "", free), sends(free, "a"), sends(free, "a", file), sends(free, ""), req(recv, "", free, 9, 4), req(recv, "", free)} {
		if got := outcome(w, first, r); got != "EINVAL" {
			t.Errorf("%v: %s", r, got)
		}
	}
}
