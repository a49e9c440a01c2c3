package apart

import (
	"fmt"
	"math"
	"reflect"
	"slices"
	"testing"

	"purlieu/api"
	"purlieu/kernel"
	"purlieu/world"
)

// Numbers of calls.
const (
	exit      = 1
	fork      = 2
	read      = 3
	write     = 4
	open      = 5
	shut      = 6 // close
	wait      = 7
	link      = 8
	unlink    = 9
	chdir     = 10
	fchdir    = 11
	mkdir     = 12
	rmdir     = 13
	getpid    = 14
	getppid   = 15
	kill      = 16
	dup       = 17
	dup2      = 18
	pipe      = 19
	rename    = 24
	lseek     = 25
	ftruncate = 26
	pwrite    = 31
	openat    = 33
	mkdirat   = 34
	unlinkat  = 35
	renameat  = 36
	linkat    = 37
	symlinkat = 38
	readlink  = 39 // readlinkat
	fstatat   = 40
	sock      = 41 // socket
	pair      = 42 // socketpair
	bind      = 43
	bindat    = 44
	listen    = 45
	connect   = 46
	connectat = 47
	accept    = 48
	shutdown  = 49
	send      = 50
	recv      = 51
	poll      = 52
	pdfork    = 53
	pdgetpid  = 54
	pdkill    = 55
	pdwait    = 56
	enter     = 57 // cap_enter
)

// asks answers a request with numbers.
func asks(no int, a ...int) api.Req {
	r := api.Req{No: no}
	copy(r.A[:], a)
	return r
}

// says answers a request with a text and numbers.
func says(no int, s string, a ...int) api.Req {
	r := asks(no, a...)
	r.S = s
	return r
}

// both answers a request with two texts and numbers.
func both(no int, s, t string, a ...int) api.Req {
	r := says(no, s, a...)
	r.T = t
	return r
}

// gives answers a send of x with these descriptors.
func gives(fd int, l ...int) api.Req {
	r := says(send, "x", fd)
	r.L = l
	return r
}

// objs answers things: kinds and numbers in turn.
func objs(l ...int) (out []api.Obj) {
	for i := 0; i < len(l); i += 2 {
		out = append(out, api.Obj{Kind: l[i], ID: l[i+1]})
	}
	return out
}

// held answers a process's descriptors of these open files.
func held(pid int, files ...int) (l []api.Held) {
	for i, id := range files {
		l = append(l, api.Held{Pid: pid, Fd: i, Slot: api.Slot{File: id}})
	}
	return l
}

// files answers open files, numbered from 1 on: kinds and numbers in turn.
func files(l ...int) (out []api.File) {
	for i := 0; i < len(l); i += 2 {
		out = append(out, api.File{ID: i/2 + 1, Kind: l[i], Obj: l[i+1]})
	}
	return out
}

// lies answers a directory with entries of these inodes.
func lies(ino int, inos ...int) api.Inode {
	return api.Inode{Ino: ino, Kind: api.KDir, Inos: inos}
}

// part answers a part with which descriptors of these open files are passed.
func part(files ...int) (p api.Part) {
	for _, id := range files {
		p.L = append(p.L, api.Passed{File: id})
	}
	return p
}

// ours is whose the scene is.
func ours() []int { return []int{2, 3} }

// scene is a dump in which 2 and 3 have to themselves: the directory 4 with all in it (a file, a socket's name), the pipe 1, the sockets 1 to 3 and 6, one another. 2 only is in 3. Of others are the processes 1, 4 (which ended) and 5 (which is in 4), the inodes 1, 2, 3 and 7, the pipe 2, the sockets 4 and 5.
func scene() api.Dump {
	slot := func(file int) api.Slot {
		return api.Slot{File: file, Rights: api.CapRead | api.CapWrite, Ioctls: api.List{L: []int{1, 3}}, Fcntls: api.FcntlGetfl}
	}
	d := api.Dump{
		Procs: []api.Proc{{Pid: 1, Lives: true, Cwd: 1}, {Pid: 2, Parent: 1, Lives: true, Cap: true, Cwd: 3}, {Pid: 3, Parent: 2, Lives: true, Pd: true, Cap: true, Cwd: 4}, {Pid: 4, Parent: 1, Code: 7}, {Pid: 5, Parent: 1, Lives: true, Cap: true, Cwd: 4}},
		Parks: []api.Park{{Pid: 1, Req: asks(read, 1, 1)}, {Pid: 2, Req: api.Req{No: poll, A: [5]int{1}, L: []int{2, 1}}}},
		Files: []api.File{{ID: 1, Kind: api.KDir, Obj: 4, Refs: 1}, {ID: 2, Kind: api.KSock, Obj: 1, Flags: api.OBoth, Refs: 1}, {ID: 3, Kind: api.KSock, Obj: 2, Refs: 1}, {ID: 4, Kind: api.KPipe, Obj: 1, Refs: 1}, {ID: 5, Kind: api.KPipe, Obj: 1, Flags: api.OWrite, Refs: 1},
			{ID: 6, Kind: api.KProc, Obj: 3, Refs: 1}, {ID: 7, Kind: api.KFile, Obj: 5, Off: 2, Refs: 1}, {ID: 8, Kind: api.KFile, Obj: 7, Refs: 2}, {ID: 9, Kind: api.KPipe, Obj: 2, Refs: 2}, {ID: 10, Kind: api.KSock, Obj: 4, Refs: 1}},
		Pipes: []api.Pipe{{ID: 1, Reads: true, Writes: true}, {ID: 2, Reads: true, B: "ab"}},
		Socks: []api.Sock{{ID: 1, State: api.SockJoined, Peer: 2, ShutR: true}, {ID: 2, State: api.SockJoined, Peer: 1, Parts: []api.Part{{B: []byte("xy"), L: []api.Passed{{File: 7, Rights: api.CapRead, Ioctls: api.List{L: []int{2}}, Fcntls: api.FcntlSetfl}}}, {B: []byte("z")}}},
			{ID: 3, State: api.SockListens, Bound: 6, Most: 2, Waits: []int{6}}, {ID: 4, State: api.SockJoined, Peer: 5}, {ID: 5, State: api.SockJoined, Peer: 4, Parts: []api.Part{{B: []byte("o"), L: []api.Passed{{File: 8}}}}}, {ID: 6, State: api.SockJoined}},
		Inodes: []api.Inode{{Ino: 1, Kind: api.KDir, Links: 1, Holds: 2, Parent: 1, Names: []string{"a", "c", "d", "f"}, Inos: []int{2, 3, 4, 7}}, {Ino: 2, Kind: api.KDir, Links: 1, Parent: 1}, {Ino: 3, Kind: api.KDir, Links: 1, Holds: 1, Parent: 1}, {Ino: 4, Kind: api.KDir, Links: 1, Holds: 3, Parent: 1, Names: []string{"f", "s"}, Inos: []int{5, 6}},
			{Ino: 5, Kind: api.KFile, Links: 1, Holds: 1, Text: "text", Blocks: 1}, {Ino: 6, Kind: api.KBound, Links: 1}, {Ino: 7, Kind: api.KFile, Links: 1, Holds: 1, Text: "other", Blocks: 2}},
		Next: [5]int{6, 11, 3, 7, 8},
	}
	for _, x := range [][]int{{1, 8, 9, 10}, {2, 1, 2, 4, 6}, {3, 3, 5}, {5, 9}} {
		for fd, file := range x[1:] {
			d.Held = append(d.Held, api.Held{Pid: x[0], Fd: fd, Slot: slot(file)})
		}
	}
	return d
}

// told holds what is told of a group against the plain words.
func told(t *testing.T, name string, d api.Dump, pids []int) seen {
	t.Helper()
	want := sees(d, pids)
	if got := Reach(d, pids); !slices.Equal(got, want.reach) {
		t.Fatal(name, pids, d, "reach", got, "not", want.reach)
	}
	if got := Sealed(d, pids); got != (want.why == "") {
		t.Fatal(name, pids, d, "sealed", got, want.why)
	}
	if got := Part(d, pids); fmt.Sprint(got) != fmt.Sprint(want.part) {
		t.Fatal(name, pids, d, "part", got, "not", want.part)
	}
	if got := Room(d); got != counted(d) {
		t.Fatal(name, d, "room", got)
	}
	return want
}

// alike holds Alike both ways round against the plain words, and answers why they are not.
func alike(t *testing.T, name string, a, b api.Dump, pids []int, x, y seen) string {
	t.Helper()
	why := unlike(a, b, pids, x, y)
	if got, turned := Alike(a, b, pids), Alike(b, a, pids); got != (why == "") || turned != got {
		t.Fatal(name, pids, a, b, "alike", got, turned, why)
	}
	return why
}

// comes is a dump, and what is to be come to in it by a group.
type comes struct {
	name string
	d    api.Dump
	pids []int
	want []api.Obj
}

// P29.1: what one of a group can come to, each once, in order, without the directories in which they only are.
func TestReach(t *testing.T) {
	all := objs(1, 4, 1, 5, 1, 6, 5, 1, 6, 1, 6, 2, 6, 3, 6, 6, 7, 2, 7, 3)
	twice := func(d api.Dump) api.Dump {
		d.Procs, d.Files, d.Pipes, d.Socks, d.Inodes = append(d.Procs, api.Proc{Pid: 2}), append(d.Files, api.File{ID: 1, Kind: api.KPipe, Obj: 2}), append(d.Pipes, api.Pipe{ID: 1}), append(d.Socks, api.Sock{ID: 1, Peer: 4}, api.Sock{ID: 5, Bound: 5}), append(d.Inodes, lies(4, 7))
		return d
	}
	places := func(l ...int) (d api.Dump) {
		for i, ino := range l {
			d.Procs = append(d.Procs, api.Proc{Pid: i + 1, Lives: true, Cap: true, Cwd: ino})
			d.Inodes = append(d.Inodes, lies(i+1, i+2))
		}
		return d
	}
	leads := places(3, 2, 1)
	leads.Held, leads.Files = held(1, 1), files(api.KProc, 2)
	for _, x := range []comes{
		{"nobody", scene(), nil, nil},
		{"an empty list", scene(), []int{}, nil},
		{"both", scene(), ours(), all},
		{"both, in another order, twice", scene(), []int{3, 2, 3, 3, 2}, all},
		{"one, which comes to the other", scene(), []int{2}, all},
		{"one", scene(), []int{3}, objs(1, 5, 5, 1, 6, 1, 6, 2, 7, 3)},
		{"another one", scene(), []int{1}, objs(1, 7, 5, 2, 6, 4, 6, 5, 7, 1)},
		{"several", scene(), []int{5, 3, 4}, objs(1, 5, 5, 1, 5, 2, 6, 1, 6, 2, 7, 3, 7, 4, 7, 5)},
		{"one that ended, none, numbers below 0 and beyond the last one", scene(), []int{4, 0, -1, 6, math.MaxInt, math.MinInt}, objs(7, math.MinInt, 7, -1, 7, 0, 7, 4, 7, 6, 7, math.MaxInt)},
		{"of nothing", api.Dump{}, []int{2, 1, 2}, objs(7, 1, 7, 2)},
		{"things twice", twice(scene()), ours(), all},
		{"directories in which they only are", places(3, 2, 1), []int{1, 2, 3}, objs(7, 1, 7, 2, 7, 3)},
		{"one in which another one is, to which it can come", leads, []int{1}, objs(7, 1, 7, 2)},
		{"descriptors of one that is not there", api.Dump{Held: held(9, 1), Files: files(api.KDir, 1), Inodes: places(1).Inodes}, []int{9}, objs(1, 1, 1, 2, 7, 9)},
	} {
		if got := Reach(x.d, x.pids); !slices.Equal(got, x.want) {
			t.Error(x.name, got, "not", x.want)
		}
		told(t, x.name, x.d, x.pids)
	}
}

// P29.2: groups of all kinds in the scene, and of things of which nobody else has any.
func TestSealedGroups(t *testing.T) {
	for _, x := range []struct {
		pids []int
		want bool
	}{
		{nil, false}, {[]int{}, false}, {ours(), true}, {[]int{3, 2}, true}, {[]int{2, 2, 3, 3, 2}, true},
		{[]int{2}, false}, {[]int{3}, false}, // the other one is come to; has the other end of the pipe
		{[]int{1}, false}, {[]int{4}, false}, {[]int{5}, false}, {[]int{1, 5}, false}, {[]int{2, 3, 1}, false}, {[]int{2, 3, 4}, false}, {[]int{2, 3, 5}, false},
		{[]int{2, 3, 6}, false}, {[]int{2, 3, 0}, false}, {[]int{-2, 2, 3}, false}, {[]int{math.MaxInt}, false}, {[]int{math.MinInt}, false},
	} {
		if got := Sealed(scene(), x.pids); got != x.want {
			t.Error(x.pids, got)
		}
		told(t, "scene", scene(), x.pids)
	}
	if Sealed(api.Dump{}, nil) || Sealed(api.Dump{}, []int{1}) || Sealed(api.Dump{}, []int{0}) {
		t.Error("of nothing")
	}
}

// turned is one thing of the scene that is another one, and whether the group is sealed then.
type turned struct {
	name string
	turn func(d *api.Dump)
	want bool
}

// takes answers how a process gets a descriptor more, of a new open file of a thing.
func takes(pid, kind, obj int) func(d *api.Dump) {
	return func(d *api.Dump) {
		d.Held = append(d.Held, api.Held{Pid: pid, Fd: 9, Slot: api.Slot{File: 99}})
		d.Files = append(d.Files, api.File{ID: 99, Kind: kind, Obj: obj})
	}
}

// passes answers how one passes a descriptor of an open file of a thing to a socket.
func passes(sock, kind, obj int) func(d *api.Dump) {
	return func(d *api.Dump) {
		d.Socks[sock-1].Parts = append(d.Socks[sock-1].Parts, part(98, 99))
		d.Files = append(d.Files, api.File{ID: 99, Kind: kind, Obj: obj})
	}
}

// seals holds each against what is written.
func seals(t *testing.T, l []turned) {
	t.Helper()
	for _, x := range l {
		d := scene()
		x.turn(&d)
		if got := Sealed(d, ours()); got != x.want {
			t.Error(x.name, got)
		}
		told(t, x.name, d, ours())
	}
}

// P29.2: what the group is, and to which processes it can come.
func TestSealedProcesses(t *testing.T) {
	seals(t, []turned{
		{"the scene", func(d *api.Dump) {}, true},
		{"one that ended", func(d *api.Dump) { d.Procs[1].Lives = false }, false},
		{"the other one ended", func(d *api.Dump) { d.Procs[2].Lives = false }, false},
		{"one not in capability mode", func(d *api.Dump) { d.Procs[2].Cap = false }, false},
		{"the other one not in capability mode", func(d *api.Dump) { d.Procs[1].Cap = false }, false},
		{"one gone", func(d *api.Dump) { d.Procs = d.Procs[2:] }, false},
		{"the first of a number", func(d *api.Dump) { d.Procs = append(d.Procs, api.Proc{Pid: 2}, api.Proc{Pid: 3, Cap: true}) }, true},
		{"the first of a number, which ended", func(d *api.Dump) { d.Procs = slices.Insert(d.Procs, 0, api.Proc{Pid: 3, Cap: true}) }, false},
		{"the first of a number, not in capability mode", func(d *api.Dump) { d.Procs = slices.Insert(d.Procs, 0, api.Proc{Pid: 2, Lives: true}) }, false},
		{"others, whatever they are", func(d *api.Dump) { d.Procs[0].Cap, d.Procs[3].Lives, d.Procs[4].Lives = true, true, false }, true},
		{"other parents", func(d *api.Dump) { d.Procs[1].Parent, d.Procs[2].Parent = 5, 5 }, true},
		{"to another process", takes(3, api.KProc, 5), false},
		{"to one that ended", takes(3, api.KProc, 4), false},
		{"to one that is not there", takes(3, api.KProc, 99), false},
		{"to itself", takes(3, api.KProc, 3), true},
		{"to one another", takes(3, api.KProc, 2), true},
		{"to another process by what waits", passes(1, api.KProc, 5), false},
		{"to one another by what waits", passes(1, api.KProc, 2), true},
		{"to what nobody has open", takes(3, api.KDir, 2), true},
		{"a directory in which both only are", func(d *api.Dump) { d.Procs[2].Cwd = 3 }, true},
		{"a directory in which one only is, that another one has open", takes(1, api.KDir, 3), true},
		{"and that one has open, too", func(d *api.Dump) { takes(1, api.KDir, 3)(d); d.Held[3].Slot.File = 99 }, false},
		{"a directory in which one only is, and another one", func(d *api.Dump) { d.Procs[0].Cwd = 3 }, true},
		{"what it can come to, in which another one is", func(d *api.Dump) { d.Procs[0].Cwd = 4 }, true},
		{"a directory above", takes(1, api.KDir, 1), true},
	})
}

// P29.2: what others have open, or waits to become theirs.
func TestSealedFromOthers(t *testing.T) {
	seals(t, []turned{
		{"another one's directory", takes(1, api.KDir, 4), false},
		{"another one's directory, open as a file", takes(1, api.KFile, 4), false},
		{"another one's file", takes(5, api.KFile, 5), false},
		{"another one's file, open as a directory", takes(5, api.KDir, 5), false},
		{"another one's name of a socket", takes(5, api.KFile, 6), false},
		{"another one's pipe", takes(1, api.KPipe, 1), false},
		{"another one's socket", takes(1, api.KSock, 1), false},
		{"another one's socket that is bound to a name", takes(1, api.KSock, 3), false},
		{"another one's socket that waits", takes(1, api.KSock, 6), false},
		{"another one's descriptor of a process", takes(1, api.KProc, 2), false},
		{"one that ended", takes(4, api.KPipe, 1), false},
		{"one that is not there", takes(0, api.KPipe, 1), false},
		{"one of the group", takes(2, api.KPipe, 1), true},
		{"others' things", takes(1, api.KProc, 5), true},
		{"a thing that is not there", takes(1, api.KFile, 99), true},
		{"a kind of nothing", takes(1, 0, 4), true},
		{"a symlink, which is never open", takes(1, api.KSymlink, 4), true},
		{"a socket's name, which is never open", takes(1, api.KBound, 6), true},
		{"a kind below 0", takes(1, -1, 4), true},
		{"another kind with that number", takes(1, api.KPipe, 4), true},
		{"an open file that is not there", func(d *api.Dump) { d.Held = append(d.Held, held(1, 98)...) }, true},
		{"the same open file", func(d *api.Dump) { d.Held = append(d.Held, held(1, 7)...) }, false},
		{"the first open file of a number", func(d *api.Dump) { d.Files = append(d.Files, api.File{ID: 8, Kind: api.KDir, Obj: 4}) }, true},
		{"the first open file of a number, which is of the group", func(d *api.Dump) {
			d.Files = slices.Insert(d.Files, 0, api.File{ID: 9, Kind: api.KDir, Obj: 4})
		}, false},
		{"it waits in another socket", passes(4, api.KFile, 5), false},
		{"it waits in the other one, a directory", passes(5, api.KDir, 4), false},
		{"a pipe waits there", passes(4, api.KPipe, 1), false},
		{"a socket waits there", passes(4, api.KSock, 6), false},
		{"a process waits there", passes(4, api.KProc, 3), false},
		{"what waits there of others", passes(4, api.KPipe, 2), true},
		{"an open file that is not there waits", func(d *api.Dump) { d.Socks[3].Parts = []api.Part{part(98)} }, true},
		{"it waits in one's own socket", passes(1, api.KFile, 5), true},
		{"it waits in a socket that is bound", passes(3, api.KDir, 4), true},
		{"it waits in one that waits", passes(6, api.KPipe, 1), true},
		{"it waits in a socket of which nobody has any", func(d *api.Dump) { d.Socks = append(d.Socks, api.Sock{ID: 7, Parts: []api.Part{part(1)}}) }, false},
		{"it waits in the first socket of a number", func(d *api.Dump) {
			d.Socks = slices.Insert(d.Socks, 0, api.Sock{ID: 4, Parts: []api.Part{{}, part(8, 1)}})
		}, false},
		{"it waits in a later one of that number, which counts for nothing", func(d *api.Dump) { d.Socks = append(d.Socks, api.Sock{ID: 4, Parts: []api.Part{part(1)}}) }, true},
		{"what waits for the group is others', too", func(d *api.Dump) { d.Socks[0].Parts = []api.Part{part(8)} }, false},
		{"and is not open for others", func(d *api.Dump) {
			d.Socks[0].Parts = []api.Part{part(8)}
			d.Held, d.Socks = d.Held[1:], slices.Delete(d.Socks, 4, 5)
		}, true},
	})
}

// P29.2, example 1: a child in capability mode with one directory, which nobody else has open.
func TestExample(t *testing.T) {
	w := world.New(api.Limits{Procs: 4, Fds: 8, Files: 9, Inodes: 10, Blocks: 8, Pipe: 4, Sock: 4})
	does := func(pid int, r api.Req) {
		t.Helper()
		if o := kernel.Step(w, api.Step{Pid: pid, Req: r}); o.Res.Err != api.OK {
			t.Fatal(r, o)
		}
	}
	sealed := func(want bool, pids ...int) {
		t.Helper()
		if got := Sealed(w.Dump(), pids); got != want {
			t.Error(pids, got)
		}
		told(t, "example", w.Dump(), pids)
	}
	for _, r := range []api.Req{says(mkdir, "a"), says(open, "a"), asks(fork)} {
		does(1, r)
	}
	does(2, asks(enter))
	sealed(false, 2) // 1 has it open, too
	does(1, asks(shut, 0))
	sealed(true, 2)
	sealed(false, 1, 2)
	does(1, says(open, "a"))
	sealed(false, 2)
	does(1, asks(shut, 0))
	does(1, says(open, "/"))
	sealed(true, 2) // what is above is not what it can come to
	does(1, says(openat, "a", 0))
	sealed(false, 2)
	does(1, asks(enter))
	sealed(true, 1, 2)
}

// P29.3: what of the scene is the group's, with the open files that its descriptors and what waits for it name; and of other groups.
func TestPart(t *testing.T) {
	d := scene()
	want := api.Dump{Procs: d.Procs[1:3], Held: d.Held[3:9], Parks: d.Parks[1:], Files: d.Files[:7], Pipes: d.Pipes[:1], Socks: append(slices.Clone(d.Socks[:3]), d.Socks[5]), Inodes: d.Inodes[3:6], Next: d.Next}
	for _, pids := range [][]int{{2, 3}, {3, 2}, {2, 2, 3}} {
		if got := Part(d, pids); !reflect.DeepEqual(got, want) {
			t.Error(pids, got, "not", want)
		}
	}
	want = api.Dump{Procs: d.Procs[1:2], Held: d.Held[3:7], Parks: d.Parks[1:], Files: append(append(slices.Clone(d.Files[:2]), d.Files[3]), d.Files[5], d.Files[6]), Pipes: d.Pipes[:1], Socks: append(slices.Clone(d.Socks[:3]), d.Socks[5]), Inodes: d.Inodes[3:6], Next: d.Next}
	if got := Part(d, []int{2}); !reflect.DeepEqual(got, want) {
		t.Error(got, "not", want)
	}
	want = api.Dump{Procs: []api.Proc{d.Procs[0], d.Procs[4]}, Held: append(slices.Clone(d.Held[:3]), d.Held[9]), Parks: d.Parks[:1], Files: d.Files[7:], Pipes: d.Pipes[1:], Socks: d.Socks[3:5], Inodes: d.Inodes[6:], Next: d.Next}
	if got := Part(d, []int{5, 9, 1}); !reflect.DeepEqual(got, want) {
		t.Error(got, "not", want)
	}
	for _, pids := range [][]int{nil, {0}, {-1, 99, math.MinInt, math.MaxInt}} {
		if got := Part(d, pids); !reflect.DeepEqual(got, api.Dump{Next: d.Next}) {
			t.Error(pids, got)
		}
	}
	if got := Part(d, []int{4}); !reflect.DeepEqual(got, api.Dump{Procs: d.Procs[3:4], Next: d.Next}) {
		t.Error(got)
	}
	if got := Part(api.Dump{}, ours()); !reflect.DeepEqual(got, api.Dump{}) {
		t.Error("of nothing", got)
	}
}

// P29.3: things of one number, others' between, in the dump's order; what is a process's that is not there.
func TestPartOfAnything(t *testing.T) {
	d := api.Dump{
		Procs:  []api.Proc{{Pid: 3, Cwd: 4}, {Pid: 1}, {Pid: 2, Code: 4}, {Pid: 3, Code: 5}},
		Held:   slices.Concat(held(9, 2), held(1, 1), held(3, 4, 1, 6)),
		Parks:  []api.Park{{Pid: 9, Req: asks(read, 9)}, {Pid: 1}, {Pid: 3}, {Pid: 9}},
		Files:  []api.File{{ID: 6, Kind: api.KSock, Obj: 5}, {ID: 4, Kind: api.KPipe, Obj: 8}, {ID: 2, Kind: api.KDir, Obj: 3}, {ID: 7}, {ID: 2, Kind: api.KPipe, Obj: 9}, {ID: 3}, {ID: 5, Kind: api.KFile, Obj: 2}},
		Pipes:  []api.Pipe{{ID: 9}, {ID: 8, B: "a"}, {ID: 8, B: "b"}, {ID: 1}},
		Socks:  []api.Sock{{ID: 6, Parts: []api.Part{part(3)}}, {ID: 5, Parts: []api.Part{part(5), part(8)}}},
		Inodes: []api.Inode{{Ino: 7, Kind: api.KFile}, lies(3, 7, 1), {Ino: 4}, {Ino: 2}, {Ino: 3, Links: 7}},
		Next:   [5]int{-1, 7, 0, math.MaxInt, 3},
	}
	want := api.Dump{
		Procs:  []api.Proc{{Pid: 3, Cwd: 4}, {Pid: 3, Code: 5}},
		Held:   slices.Concat(held(9, 2), held(3, 4, 1, 6)),
		Parks:  []api.Park{{Pid: 9, Req: asks(read, 9)}, {Pid: 3}, {Pid: 9}},
		Files:  []api.File{{ID: 6, Kind: api.KSock, Obj: 5}, {ID: 4, Kind: api.KPipe, Obj: 8}, {ID: 2, Kind: api.KDir, Obj: 3}, {ID: 2, Kind: api.KPipe, Obj: 9}, {ID: 5, Kind: api.KFile, Obj: 2}},
		Pipes:  []api.Pipe{{ID: 8, B: "a"}, {ID: 8, B: "b"}},
		Socks:  []api.Sock{{ID: 5, Parts: []api.Part{part(5), part(8)}}},
		Inodes: []api.Inode{{Ino: 7, Kind: api.KFile}, lies(3, 7, 1), {Ino: 2}, {Ino: 3, Links: 7}},
		Next:   d.Next,
	}
	if got := Part(d, []int{9, 3, 8}); !reflect.DeepEqual(got, want) {
		t.Error(got, "not", want)
	}
	told(t, "anything", d, []int{9, 3, 8})
}

// P29.3: how much there is, whoever has it.
func TestRoom(t *testing.T) {
	if got := Room(scene()); got != [4]int{5, 10, 7, 3} {
		t.Error(got)
	}
	if got := Room(api.Dump{Held: held(1, 1, 2), Parks: []api.Park{{}}, Pipes: []api.Pipe{{}}, Socks: []api.Sock{{}}, Next: [5]int{1, 2, 3, 4, 5}}); got != [4]int{} {
		t.Error("of others", got)
	}
	for i, turn := range []func(d *api.Dump){
		func(d *api.Dump) { d.Procs = append(d.Procs, api.Proc{Pid: 1}) },
		func(d *api.Dump) { d.Files = append(d.Files, api.File{ID: 1}) },
		func(d *api.Dump) { d.Inodes = append(d.Inodes, api.Inode{Ino: 1}) },
		func(d *api.Dump) { d.Inodes[0].Blocks++ },
	} {
		d, want := scene(), [4]int{5, 10, 7, 3}
		want[i]++
		if turn(&d); Room(d) != want {
			t.Error(i, Room(d))
		}
	}
}
