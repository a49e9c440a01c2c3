package confine

import (
	"math"
	"reflect"
	"slices"
	"testing"

	"purlieu/api"
	"purlieu/calls"
	"purlieu/kernel"
	"purlieu/reqs"
	"purlieu/world"
)

// Numbers of calls.
const (
	exit      = 1
	fork      = 2
	read      = 3
	write     = 4
	open      = 5
	shut      = 6 // close
	wait      = 7
	link      = 8
	unlink    = 9
	chdir     = 10
	mkdir     = 12
	kill      = 16
	dup       = 17
	dup2      = 18
	pipe      = 19
	ftruncate = 26
	openat    = 33
	mkdirat   = 34
	unlinkat  = 35
	renameat  = 36
	linkat    = 37
	symlinkat = 38
	readlink  = 39 // readlinkat
	fstatat   = 40
	sock      = 41 // socket
	pair      = 42 // socketpair
	bind      = 43
	bindat    = 44
	listen    = 45
	connect   = 46
	connectat = 47
	accept    = 48
	shutdown  = 49
	send      = 50
	recv      = 51
	pdfork    = 53
	pdkill    = 55
	pdwait    = 56
	enter     = 57 // cap_enter
)

// asks answers a request with numbers.
func asks(no int, a ...int) api.Req {
	r := api.Req{No: no}
	copy(r.A[:], a)
	return r
}

// says answers a request with a text and numbers.
func says(no int, s string, a ...int) api.Req {
	r := asks(no, a...)
	r.S = s
	return r
}

// both answers a request with two texts and numbers.
func both(no int, s, t string, a ...int) api.Req {
	r := says(no, s, a...)
	r.T = t
	return r
}

// gives answers a send of x with these descriptors.
func gives(fd int, l ...int) api.Req {
	r := says(send, "x", fd)
	r.L = l
	return r
}

// objs answers things: kinds and numbers in turn.
func objs(l ...int) (out []api.Obj) {
	for i := 0; i < len(l); i += 2 {
		out = append(out, api.Obj{Kind: l[i], ID: l[i+1]})
	}
	return out
}

// scene is a dump in which each field of each thing is something.
func scene() api.Dump {
	passed := func(file int) api.Passed {
		return api.Passed{File: file, Rights: api.CapRead, Ioctls: api.List{L: []int{1, 3}}, Fcntls: api.FcntlGetfl}
	}
	return api.Dump{
		Procs:  []api.Proc{{Pid: 1, Lives: true, Cwd: 1}, {Pid: 2, Parent: 1, Lives: true, Cap: true, Cwd: 2}, {Pid: 3, Parent: 2, Code: 7, Pd: true}},
		Held:   []api.Held{{Pid: 1, Fd: 0, Slot: api.Slot{File: 1}}},
		Parks:  []api.Park{{Pid: 1, Req: asks(read, 0, 1)}},
		Files:  []api.File{{ID: 1, Kind: api.KPipe, Obj: 1, Refs: 1}},
		Pipes:  []api.Pipe{{ID: 1, Reads: true, B: "ab"}, {ID: 2, Writes: true}},
		Socks:  []api.Sock{{ID: 1, State: api.SockListens, Bound: 5, Most: 2, Waits: []int{3, 4}}, {ID: 2, State: api.SockJoined, Peer: 3, ShutR: true, Parts: []api.Part{{B: []byte("xy"), L: []api.Passed{passed(1), passed(2)}}, {B: []byte("z"), L: []api.Passed{passed(3)}}}}},
		Inodes: []api.Inode{{Ino: 1, Kind: api.KDir, Links: 1, Holds: 2, Parent: 1, Names: []string{"a", "f"}, Inos: []int{2, 3}}, {Ino: 2, Kind: api.KDir, Links: 1, Holds: 1, Parent: 1}, {Ino: 3, Kind: api.KFile, Links: 1, Text: "text", Blocks: 1}, {Ino: 4, Kind: api.KSymlink, Text: "f", Links: 1}},
		Next:   [5]int{4, 2, 3, 3, 5},
	}
}

// turned is one thing of the scene that is another one, and what Effects is to tell of that.
type turned struct {
	name string
	turn func(d *api.Dump)
	want []api.Obj
}

// holds holds each against what is written.
func holds(t *testing.T, l []turned) {
	t.Helper()
	for _, x := range l {
		now := scene()
		x.turn(&now)
		if got := Effects(scene(), now); !slices.Equal(got, x.want) {
			t.Error(x.name, got, "not", x.want)
		}
		if got := changed(scene(), now); !slices.Equal(got, x.want) {
			t.Error(x.name, "plainly", got, "not", x.want)
		}
	}
}

// P28.2: each field of an inode and of a pipe that alone is another one.
func TestEffectsOfInodesAndPipes(t *testing.T) {
	root, dir, file, name, first, second := objs(1, 1), objs(1, 2), objs(1, 3), objs(1, 4), objs(5, 1), objs(5, 2)
	holds(t, []turned{
		{"nothing", func(d *api.Dump) {}, nil},
		{"an inode's kind", func(d *api.Dump) { d.Inodes[1].Kind = api.KBound }, dir},
		{"its text", func(d *api.Dump) { d.Inodes[2].Text = "texT" }, file},
		{"its text, longer", func(d *api.Dump) { d.Inodes[2].Text = "text\x00" }, file},
		{"a target", func(d *api.Dump) { d.Inodes[3].Text = "" }, name},
		{"a name", func(d *api.Dump) { d.Inodes[0].Names[1] = "g" }, root},
		{"a name more", func(d *api.Dump) { d.Inodes[0].Names = append(d.Inodes[0].Names, "x") }, root},
		{"a name less", func(d *api.Dump) { d.Inodes[0].Names = d.Inodes[0].Names[:1] }, root},
		{"the names in another order", func(d *api.Dump) { slices.Reverse(d.Inodes[0].Names) }, root},
		{"an entry's inode", func(d *api.Dump) { d.Inodes[0].Inos[0] = 3 }, root},
		{"an entry's inode more", func(d *api.Dump) { d.Inodes[1].Inos = []int{3} }, dir},
		{"the inodes in another order", func(d *api.Dump) { slices.Reverse(d.Inodes[0].Inos) }, root},
		{"its links", func(d *api.Dump) { d.Inodes[2].Links = 2 }, nil},
		{"its holds", func(d *api.Dump) { d.Inodes[2].Holds = 2 }, nil},
		{"where it lies", func(d *api.Dump) { d.Inodes[1].Parent = 3 }, nil},
		{"its blocks", func(d *api.Dump) { d.Inodes[2].Blocks = 2 }, nil},
		{"its number", func(d *api.Dump) { d.Inodes[1].Ino = 9 }, dir},
		{"empty lists", func(d *api.Dump) { d.Inodes[1].Names, d.Inodes[1].Inos = []string{}, []int{} }, nil},
		{"a pipe's number", func(d *api.Dump) { d.Pipes[0].ID = 9 }, first},
		{"its reading end", func(d *api.Dump) { d.Pipes[0].Reads = false }, first},
		{"its writing end", func(d *api.Dump) { d.Pipes[1].Writes = false }, second},
		{"its bytes", func(d *api.Dump) { d.Pipes[1].B = "\x00" }, second},
		{"other bytes", func(d *api.Dump) { d.Pipes[0].B = "aB" }, first},
	})
}

// P28.2: each field of a socket that alone is another one, what waits in it down to its whitelists.
func TestEffectsOfSockets(t *testing.T) {
	first, second := objs(6, 1), objs(6, 2)
	holds(t, []turned{
		{"a socket's number", func(d *api.Dump) { d.Socks[0].ID = 9 }, first},
		{"its state", func(d *api.Dump) { d.Socks[0].State = api.SockFresh }, first},
		{"its peer", func(d *api.Dump) { d.Socks[1].Peer = 0 }, second},
		{"to what it is bound", func(d *api.Dump) { d.Socks[0].Bound = 6 }, first},
		{"how many may wait", func(d *api.Dump) { d.Socks[0].Most = 3 }, first},
		{"who waits", func(d *api.Dump) { d.Socks[0].Waits[1] = 5 }, first},
		{"one that waits less", func(d *api.Dump) { d.Socks[0].Waits = d.Socks[0].Waits[:1] }, first},
		{"the order in which they wait", func(d *api.Dump) { slices.Reverse(d.Socks[0].Waits) }, first},
		{"shut for reading", func(d *api.Dump) { d.Socks[1].ShutR = false }, second},
		{"shut for writing", func(d *api.Dump) { d.Socks[1].ShutW = true }, second},
		{"a part more", func(d *api.Dump) { d.Socks[0].Parts = []api.Part{{}} }, first},
		{"a part less", func(d *api.Dump) { d.Socks[1].Parts = d.Socks[1].Parts[:1] }, second},
		{"the order of the parts", func(d *api.Dump) { slices.Reverse(d.Socks[1].Parts) }, second},
		{"a byte", func(d *api.Dump) { d.Socks[1].Parts[1].B[0]++ }, second},
		{"a byte less", func(d *api.Dump) { d.Socks[1].Parts[1].B = nil }, second},
		{"one passed less", func(d *api.Dump) { d.Socks[1].Parts[0].L = d.Socks[1].Parts[0].L[1:] }, second},
		{"the order of what is passed", func(d *api.Dump) { slices.Reverse(d.Socks[1].Parts[0].L) }, second},
		{"which is passed", func(d *api.Dump) { d.Socks[1].Parts[0].L[1].File = 4 }, second},
		{"its rights", func(d *api.Dump) { d.Socks[1].Parts[1].L[0].Rights = 0 }, second},
		{"its commands", func(d *api.Dump) { d.Socks[1].Parts[1].L[0].Ioctls.L[1] = 4 }, second},
		{"a command less", func(d *api.Dump) { d.Socks[1].Parts[1].L[0].Ioctls.L = []int{1} }, second},
		{"all commands", func(d *api.Dump) { d.Socks[1].Parts[1].L[0].Ioctls.All = true }, second},
		{"its commands of fcntl", func(d *api.Dump) { d.Socks[1].Parts[1].L[0].Fcntls = 0 }, second},
		{"empty lists", func(d *api.Dump) { d.Socks[0].Parts, d.Socks[1].Waits = []api.Part{}, []int{} }, nil},
	})
	a, b := api.Dump{Socks: []api.Sock{{ID: 1, Parts: []api.Part{{L: []api.Passed{{}}}}}}}, api.Dump{Socks: []api.Sock{{ID: 1, Parts: []api.Part{{B: []byte{}, L: []api.Passed{{Ioctls: api.List{L: []int{}}}}}}, Waits: []int{}}}}
	b.Socks = append(b.Socks, api.Sock{ID: 2, Parts: []api.Part{{B: []byte("x")}}})
	a.Socks = append(a.Socks, api.Sock{ID: 2, Parts: []api.Part{{B: []byte("x"), L: []api.Passed{}}}})
	if e, f := Effects(a, b), Effects(b, a); len(e)+len(f) > 0 {
		t.Error(e, f)
	}
}

// P28.1, P28.2: each field of a process that alone is another one; things gone and new, and of one number twice; what is no thing.
func TestEffectsOfProcesses(t *testing.T) {
	first, second, third := objs(7, 1), objs(7, 2), objs(7, 3)
	holds(t, []turned{
		{"a process's number", func(d *api.Dump) { d.Procs[0].Pid = 9 }, first},
		{"its parent", func(d *api.Dump) { d.Procs[2].Parent = 1 }, nil},
		{"its parent and another thing", func(d *api.Dump) { d.Procs[2].Parent, d.Procs[2].Code = 1, 8 }, third},
		{"whether it lives", func(d *api.Dump) { d.Procs[1].Lives = false }, second},
		{"its code", func(d *api.Dump) { d.Procs[2].Code = 0 }, third},
		{"whether a descriptor stands for it", func(d *api.Dump) { d.Procs[2].Pd = false }, third},
		{"whether it is in capability mode", func(d *api.Dump) { d.Procs[0].Cap = true }, first},
		{"where it is", func(d *api.Dump) { d.Procs[1].Cwd = 1 }, second},
		{"all gone", func(d *api.Dump) { *d = api.Dump{} }, objs(1, 1, 1, 2, 1, 3, 1, 4, 5, 1, 5, 2, 6, 1, 6, 2, 7, 1, 7, 2, 7, 3)},
		{"new ones", func(d *api.Dump) {
			d.Procs, d.Pipes, d.Socks, d.Inodes = append(d.Procs, api.Proc{Pid: 4}), append(d.Pipes, api.Pipe{ID: 3}), append(d.Socks, api.Sock{ID: 3}), append(d.Inodes, api.Inode{Ino: 5})
		}, nil},
		{"no things", func(d *api.Dump) {
			d.Held, d.Parks, d.Next = nil, nil, [5]int{}
			d.Files[0] = api.File{ID: 1, Kind: api.KSock, Obj: 2, Off: 3, Flags: 4, Refs: 5}
		}, nil},
		{"all in another order", func(d *api.Dump) {
			slices.Reverse(d.Procs)
			slices.Reverse(d.Pipes)
			slices.Reverse(d.Socks)
			slices.Reverse(d.Inodes)
		}, nil},
		{"another one behind", func(d *api.Dump) {
			d.Procs, d.Pipes, d.Socks, d.Inodes = append(d.Procs, api.Proc{Pid: 1}), append(d.Pipes, api.Pipe{ID: 1}), append(d.Socks, api.Sock{ID: 1}), append(d.Inodes, api.Inode{Ino: 1})
		}, nil},
		{"another one ahead", func(d *api.Dump) {
			d.Procs, d.Pipes, d.Socks, d.Inodes = slices.Insert(d.Procs, 0, api.Proc{Pid: 2}), slices.Insert(d.Pipes, 0, api.Pipe{ID: 2}), slices.Insert(d.Socks, 0, api.Sock{ID: 2}), slices.Insert(d.Inodes, 0, api.Inode{Ino: 2})
		}, objs(1, 2, 5, 2, 6, 2, 7, 2)},
	})
	was := scene()
	was.Procs, was.Pipes, was.Socks, was.Inodes = append(was.Procs, api.Proc{Pid: 2}), append(was.Pipes, api.Pipe{ID: 2}), append(was.Socks, api.Sock{ID: 2}), append(was.Inodes, api.Inode{Ino: 2})
	if e := Effects(was, scene()); len(e) > 0 {
		t.Error("another one behind, ahead of it", e)
	}
	if e := Effects(was, api.Dump{}); !slices.Equal(e, objs(1, 1, 1, 2, 1, 3, 1, 4, 5, 1, 5, 2, 6, 1, 6, 2, 7, 1, 7, 2, 7, 3)) {
		t.Error("each once", e)
	}
	odd := api.Dump{Procs: []api.Proc{{Pid: math.MaxInt}, {Pid: -1}, {}, {Pid: math.MinInt}}, Inodes: []api.Inode{{Ino: 5}, {}, {Ino: -7}}}
	if e := Effects(odd, api.Dump{}); !slices.Equal(e, objs(1, -7, 1, 0, 1, 5, 7, math.MinInt, 7, -1, 7, 0, 7, math.MaxInt)) {
		t.Error("any numbers", e)
	}
	if e := Effects(api.Dump{}, scene()); len(e) > 0 {
		t.Error("of nothing", e)
	}
}

// come is a dump, and what is to be come to in it from the process pid.
type come struct {
	name string
	d    api.Dump
	pid  int
	want []api.Obj
}

// comes holds each against what is written.
func comes(t *testing.T, l []come) {
	t.Helper()
	for _, x := range l {
		if got := Authority(x.d, x.pid); !slices.Equal(got, x.want) {
			t.Error(x.name, got, "not", x.want)
		}
		if got := reached(x.d, x.pid); !slices.Equal(got, x.want) {
			t.Error(x.name, "plainly", got, "not", x.want)
		}
	}
}

// held answers a process's descriptors of these open files.
func held(pid int, files ...int) (l []api.Held) {
	for i, id := range files {
		l = append(l, api.Held{Pid: pid, Fd: i, Slot: api.Slot{File: id}})
	}
	return l
}

// files answers open files, numbered from 1 on: kinds and numbers in turn.
func files(l ...int) (out []api.File) {
	for i := 0; i < len(l); i += 2 {
		out = append(out, api.File{ID: i/2 + 1, Kind: l[i], Obj: l[i+1]})
	}
	return out
}

// lies answers a directory with entries of these inodes.
func lies(ino int, inos ...int) api.Inode {
	return api.Inode{Ino: ino, Kind: api.KDir, Inos: inos}
}

// part answers a part with which descriptors of these open files are passed.
func part(files ...int) (p api.Part) {
	for _, id := range files {
		p.L = append(p.L, api.Passed{File: id})
	}
	return p
}

// P28.1, P28.3: what is come to from a process, and from what open files are of.
func TestAuthorityOfDescriptors(t *testing.T) {
	one := func(kind, obj int) api.Dump { return api.Dump{Held: held(2, 1), Files: files(kind, obj)} }
	two := []api.Proc{{Pid: 2, Cwd: 8}, {Pid: 2, Cwd: 9}, {Pid: 3, Cwd: 7}}
	comes(t, []come{
		{"nothing there", api.Dump{}, 2, objs(7, 2)},
		{"the number 0", api.Dump{}, 0, objs(7, 0)},
		{"below 0", scene(), math.MinInt, objs(7, math.MinInt)},
		{"beyond the last one", scene(), math.MaxInt, objs(7, math.MaxInt)},
		{"one that is there", scene(), 3, objs(7, 3)},
		{"in a directory, with a pipe", scene(), 1, objs(1, 1, 5, 1, 7, 1)},
		{"in no directory", api.Dump{Procs: []api.Proc{{Pid: 2, Cwd: 0}}, Inodes: []api.Inode{{Kind: api.KDir}}}, 2, objs(7, 2)},
		{"in one that is not there", api.Dump{Procs: []api.Proc{{Pid: 2, Cwd: -5}}}, 2, objs(1, -5, 7, 2)},
		{"the first one's directory", api.Dump{Procs: two}, 2, objs(1, 8, 7, 2)},
		{"one that ended", api.Dump{Procs: two}, 3, objs(1, 7, 7, 3)},
		{"a file", one(api.KFile, 3), 2, objs(1, 3, 7, 2)},
		{"a directory", one(api.KDir, 3), 2, objs(1, 3, 7, 2)},
		{"a pipe", one(api.KPipe, 3), 2, objs(5, 3, 7, 2)},
		{"a socket", one(api.KSock, 3), 2, objs(6, 3, 7, 2)},
		{"a process", one(api.KProc, 3), 2, objs(7, 2, 7, 3)},
		{"itself", one(api.KProc, 2), 2, objs(7, 2)},
		{"no kind", one(0, 3), 2, objs(7, 2)},
		{"a kind below 0", one(-1, 3), 2, objs(7, 2)},
		{"a kind beyond the last one", one(8, 3), 2, objs(7, 2)},
		{"a symlink, which is never open", one(api.KSymlink, 3), 2, objs(7, 2)},
		{"a socket's name, which is never open", one(api.KBound, 3), 2, objs(7, 2)},
		{"another one's", one(api.KPipe, 3), 3, objs(7, 3)},
		{"an open file that is not there", api.Dump{Held: held(2, 9), Files: files(api.KPipe, 9)}, 2, objs(7, 2)},
		{"an open file of the number 0", api.Dump{Held: held(2, 0), Files: []api.File{{Kind: api.KPipe, Obj: 4}}}, 2, objs(5, 4, 7, 2)},
		{"the first one of two open files", api.Dump{Held: held(2, 1), Files: []api.File{{ID: 1, Kind: api.KPipe, Obj: 4}, {ID: 1, Kind: api.KPipe, Obj: 5}}}, 2, objs(5, 4, 7, 2)},
		{"the first one, which is of no kind", api.Dump{Held: held(2, 1), Files: []api.File{{ID: 1}, {ID: 1, Kind: api.KPipe, Obj: 5}}}, 2, objs(7, 2)},
		{"two descriptors of one number", api.Dump{Held: append(held(2, 1), held(2, 2)...), Files: files(api.KPipe, 4, api.KPipe, 3)}, 2, objs(5, 3, 5, 4, 7, 2)},
		{"numbers that are the same, of all kinds", api.Dump{Held: held(2, 1, 2, 3, 4, 5), Files: files(api.KProc, 1, api.KSock, 1, api.KPipe, 1, api.KDir, 1, api.KFile, 1)}, 2, objs(1, 1, 5, 1, 6, 1, 7, 1, 7, 2)},
		{"a child's child, and what they have", api.Dump{Procs: []api.Proc{{Pid: 2}, {Pid: 3, Cwd: 6}, {Pid: 4, Cwd: 5}}, Held: slices.Concat(held(2, 1), held(3, 2), held(4, 3, 1)), Files: files(api.KProc, 3, api.KProc, 4, api.KPipe, 9)}, 2, objs(1, 5, 1, 6, 5, 9, 7, 2, 7, 3, 7, 4)},
		{"from the last one of these", api.Dump{Held: slices.Concat(held(2, 1), held(3, 2), held(4, 3)), Files: files(api.KProc, 3, api.KProc, 4, api.KPipe, 9)}, 4, objs(5, 9, 7, 4)},
		{"not its parent, nor its children", api.Dump{Procs: []api.Proc{{Pid: 1}, {Pid: 2, Parent: 1}, {Pid: 3, Parent: 2}}}, 2, objs(7, 2)},
	})
}

// P28.3: what is come to from directories: all below one that is open, and nothing below one in which a process only is.
func TestAuthorityOfDirectories(t *testing.T) {
	tree := []api.Inode{lies(1, 2, 3), lies(2, 4, 5), {Ino: 3, Kind: api.KFile, Inos: []int{6}}, lies(4), {Ino: 5, Kind: api.KBound}, lies(6, 7)}
	bound := []api.Sock{{ID: 1, Bound: 5}, {ID: 2, Bound: 2}, {ID: 3, Bound: 9}, {ID: 4}, {ID: 5, Bound: 5}}
	of := func(files []api.File, inodes []api.Inode, cwd int) api.Dump {
		return api.Dump{Procs: []api.Proc{{Pid: 1, Cwd: cwd}}, Held: held(1, 1), Files: files, Socks: bound, Inodes: inodes}
	}
	comes(t, []come{
		{"the root", of(files(api.KDir, 1), tree, 0), 1, objs(1, 1, 1, 2, 1, 3, 1, 4, 1, 5, 6, 1, 6, 2, 6, 5, 7, 1)},
		{"one in it", of(files(api.KDir, 2), tree, 1), 1, objs(1, 1, 1, 2, 1, 4, 1, 5, 6, 1, 6, 2, 6, 5, 7, 1)},
		{"one that a process is in, too", of(files(api.KDir, 2), tree, 2), 1, objs(1, 2, 1, 4, 1, 5, 6, 1, 6, 2, 6, 5, 7, 1)},
		{"one below which a process is", of(files(api.KDir, 1), tree, 2), 1, objs(1, 1, 1, 2, 1, 3, 1, 4, 1, 5, 6, 1, 6, 2, 6, 5, 7, 1)},
		{"one that a process only is in", of(nil, tree, 2), 1, objs(1, 2, 7, 1)},
		{"an empty one", of(files(api.KDir, 4), tree, 0), 1, objs(1, 4, 7, 1)},
		{"a name", of(files(api.KFile, 5), tree, 0), 1, objs(1, 5, 6, 1, 6, 5, 7, 1)},
		{"one that a process only is in, and a name", of(files(api.KFile, 5), tree, 2), 1, objs(1, 2, 1, 5, 6, 1, 6, 5, 7, 1)},
		{"a file with entries", of(files(api.KFile, 3), tree, 0), 1, objs(1, 3, 7, 1)},
		{"a file with entries, open as a directory", of(files(api.KDir, 3), tree, 0), 1, objs(1, 3, 7, 1)},
		{"a directory, open as a file", of(files(api.KFile, 2), tree, 0), 1, objs(1, 2, 1, 4, 1, 5, 6, 1, 6, 2, 6, 5, 7, 1)},
		{"one that is not there, but bound to", of(files(api.KDir, 9), tree, 0), 1, objs(1, 9, 6, 3, 7, 1)},
		{"a ring", of(files(api.KDir, 1), []api.Inode{lies(1, 2), lies(2, 3), lies(3, 1, 3)}, 0), 1, objs(1, 1, 1, 2, 1, 3, 6, 2, 7, 1)},
		{"entries that lead to no inode", of(files(api.KDir, 1), []api.Inode{lies(1, 0, 7, -3, 5)}, 0), 1, objs(1, -3, 1, 0, 1, 1, 1, 5, 1, 7, 6, 1, 6, 5, 7, 1)},
		{"the first one of two", of(files(api.KDir, 1), []api.Inode{lies(1, 6), lies(1, 8), lies(6), lies(6, 7)}, 0), 1, objs(1, 1, 1, 6, 7, 1)},
		{"the first one of two, which is a file", of(files(api.KDir, 1), []api.Inode{{Ino: 1, Kind: api.KFile}, lies(1, 8)}, 0), 1, objs(1, 1, 7, 1)},
		{"a symlink with entries", of(files(api.KDir, 1), []api.Inode{lies(1, 8), {Ino: 8, Kind: api.KSymlink, Text: "/", Inos: []int{7}}}, 0), 1, objs(1, 1, 1, 8, 7, 1)},
	})
}

// P28.3: what is come to from sockets: by Peer, by those that wait, by what is passed, and from there on.
func TestAuthorityOfSockets(t *testing.T) {
	of := func(l ...api.Sock) api.Dump {
		return api.Dump{Held: append(held(1, 1), held(2, 2)...), Files: files(api.KSock, 1, api.KPipe, 2, api.KDir, 3, api.KProc, 2, api.KSock, 6), Socks: l, Inodes: []api.Inode{lies(3, 4), {Ino: 4, Kind: api.KBound}}}
	}
	comes(t, []come{
		{"by itself", of(api.Sock{ID: 1}, api.Sock{ID: 2, Peer: 1}, api.Sock{}), 1, objs(6, 1, 7, 1)},
		{"that is not there", of(api.Sock{ID: 2, Peer: 1}), 1, objs(6, 1, 7, 1)},
		{"with the other end", of(api.Sock{ID: 1, Peer: 2}, api.Sock{ID: 2, Peer: 1}), 1, objs(6, 1, 6, 2, 7, 1)},
		{"with an end that is not there", of(api.Sock{ID: 1, Peer: -2}), 1, objs(6, -2, 6, 1, 7, 1)},
		{"a chain", of(api.Sock{ID: 1, Peer: 2}, api.Sock{ID: 2, Peer: 3}, api.Sock{ID: 3, Peer: 4}, api.Sock{ID: 5, Peer: 4}), 1, objs(6, 1, 6, 2, 6, 3, 6, 4, 7, 1)},
		{"at which some wait", of(api.Sock{ID: 1, Waits: []int{5, 2}}, api.Sock{ID: 2, Peer: 3}, api.Sock{ID: 5, Waits: []int{7, 0, 1}}), 1, objs(6, 0, 6, 1, 6, 2, 6, 3, 6, 5, 6, 7, 7, 1)},
		{"in which a pipe is passed", of(api.Sock{ID: 1, Parts: []api.Part{part(), part(9, 2)}}), 1, objs(5, 2, 6, 1, 7, 1)},
		{"in which itself is passed", of(api.Sock{ID: 1, Parts: []api.Part{part(1)}}), 1, objs(6, 1, 7, 1)},
		{"in which a directory is passed", of(api.Sock{ID: 1, Parts: []api.Part{part(3)}}, api.Sock{ID: 9, Bound: 4}), 1, objs(1, 3, 1, 4, 6, 1, 6, 9, 7, 1)},
		{"in which a process is passed", of(api.Sock{ID: 1, Parts: []api.Part{part(4)}}), 1, objs(5, 2, 6, 1, 7, 1, 7, 2)},
		{"in which several are passed", of(api.Sock{ID: 1, Parts: []api.Part{part(3, 2), part(), part(4)}}), 1, objs(1, 3, 1, 4, 5, 2, 6, 1, 7, 1, 7, 2)},
		{"in the other end of which a directory is passed, below which one is bound, at which one waits, in which one is passed, in which a process is", of(
			api.Sock{ID: 1, Peer: 2}, api.Sock{ID: 2, Parts: []api.Part{part(3)}}, api.Sock{ID: 7, Bound: 4, Waits: []int{5}}, api.Sock{ID: 5, Parts: []api.Part{part(5)}}, api.Sock{ID: 6, Parts: []api.Part{part(4)}}), 1,
			objs(1, 3, 1, 4, 5, 2, 6, 1, 6, 2, 6, 5, 6, 6, 6, 7, 7, 1, 7, 2)},
		{"the first one of two", of(api.Sock{ID: 1, Peer: 2}, api.Sock{ID: 1, Peer: 3}, api.Sock{ID: 2}, api.Sock{ID: 2, Peer: 4}), 1, objs(6, 1, 6, 2, 7, 1)},
		{"the first one of two, which is not bound", api.Dump{Held: held(1, 1), Files: files(api.KDir, 3), Socks: []api.Sock{{ID: 1, Bound: 2}, {ID: 1, Bound: 3}, {ID: 2, Bound: 3}, {ID: 2, Bound: 2}}}, 1, objs(1, 3, 6, 2, 7, 1)},
		{"bound to nothing", api.Dump{Held: held(1, 1), Files: files(api.KDir, 0), Socks: []api.Sock{{ID: 1}}, Inodes: []api.Inode{lies(0, 5)}}, 1, objs(1, 0, 1, 5, 7, 1)},
		{"bound to what a process of another one is in", api.Dump{Procs: []api.Proc{{Pid: 3, Cwd: 4}}, Held: held(1, 1), Files: files(api.KProc, 3), Socks: []api.Sock{{ID: 1, Bound: 4}}, Inodes: []api.Inode{lies(4, 5)}}, 1, objs(1, 4, 7, 1, 7, 3)},
	})
}

// P28.4: what changed, of which nothing is come to; what is come to is looked at ahead of the change.
func TestOutside(t *testing.T) {
	was := scene()
	was.Held = slices.Concat(held(1, 1, 2), held(2, 3, 4))
	was.Files = files(api.KPipe, 1, api.KDir, 1, api.KSock, 2, api.KProc, 3)
	all := objs(1, 1, 1, 2, 1, 3, 1, 4, 5, 1, 5, 2, 6, 1, 6, 2, 7, 1, 7, 2, 7, 3)
	for pid, want := range map[int][]api.Obj{
		1: objs(1, 4, 5, 2, 6, 1, 6, 2, 7, 2, 7, 3),
		2: objs(1, 4, 5, 2, 6, 1, 7, 1),
		3: objs(1, 1, 1, 2, 1, 3, 1, 4, 5, 1, 5, 2, 6, 1, 6, 2, 7, 1, 7, 2),
		9: all, 0: all, -1: all, math.MaxInt: all,
	} {
		if got := Outside(was, api.Dump{}, pid); !slices.Equal(got, want) {
			t.Error(pid, got, "not", want)
		}
		if got := Outside(was, was, pid); len(got) > 0 {
			t.Error(pid, got)
		}
	}
	now := scene()
	now.Inodes[3].Text, now.Procs[1].Code, now.Inodes[2].Links, now.Procs[0].Cwd = "x", 1, 9, 4
	now.Files, now.Held = files(api.KFile, 4), held(1, 1)
	if got := Outside(was, now, 1); !slices.Equal(got, objs(1, 4, 7, 2)) {
		t.Error(got)
	}
	if got := Outside(api.Dump{}, now, 1); len(got) > 0 {
		t.Error("of nothing", got)
	}
}

// P28.4, example 1, and the words beside P28.3: in capability mode, with one descriptor, of a directory: that directory, all below it, the process and where it is.
func TestExample(t *testing.T) {
	w := world.New(api.Limits{Procs: 4, Fds: 8, Files: 9, Inodes: 10, Blocks: 8, Pipe: 4, Sock: 4})
	for _, r := range []api.Req{says(mkdir, "a"), says(mkdir, "a/b"), says(mkdir, "z"), says(open, "a/b/f", api.OCreat), says(open, "a"), asks(shut, 0), says(chdir, "z"), asks(enter)} {
		if res := kernel.Do(w, 1, r); res.Err != api.OK {
			t.Fatal(r, res)
		}
	}
	if got := Authority(w.Dump(), 1); !slices.Equal(got, objs(1, 2, 1, 3, 1, 4, 1, 5, 7, 1)) {
		t.Error(got)
	}
}

// shared tells whether a call names what all share, by the table of chapter 15: it has a path from nowhere but where the process is, or a number of a process, or a name to bind; or it takes a directory's descriptor, and is handed AtCwd.
func shared(r api.Req) bool {
	switch r.No {
	case open, wait, link, unlink, chdir, 11, mkdir, 13, kill, 22, 23, 24, 28, bind, connect:
		return true
	case renameat, linkat:
		return r.A[0] == -100 || r.A[1] == -100
	case openat, mkdirat, unlinkat, symlinkat, readlink, fstatat, bindat, connectat:
		return r.A[0] == -100
	}
	return false
}

// stage answers a world in which 1 is in capability mode: 0 is the root, 1 a socket, 2 and 3 a pair, 4 a file, 5 a process.
func stage(t *testing.T) *world.World {
	t.Helper()
	w := world.New(api.Limits{Procs: 5, Fds: 16, Files: 20, Inodes: 20, Blocks: 8, Pipe: 4, Sock: 4})
	for _, r := range []api.Req{says(mkdir, "d"), says(open, "/"), asks(sock), asks(pair), says(open, "d/f", api.OCreat|api.OBoth), asks(pdfork), asks(fork), asks(sock), says(bind, "b", 6), asks(listen, 6, 2), both(22, "d", "l"), asks(enter)} {
		if res := kernel.Do(w, 1, r); res.Err != api.OK {
			t.Fatal(r, res)
		}
	}
	return w
}

// P28.6: each call in capability mode on an absolute path, on one from where the process is, on a process's number, on a name to bind tells ECAPMODE, and changes nothing.
func TestNamesOfAll(t *testing.T) {
	w := stage(t)
	was := w.Dump()
	paths := []string{"d", "/d", "x", "/x", "/", ".", "..", "", "d/f", "/d/f", "l", "l/f", "b", "/b", "//", "none/x"}
	count := map[int]int{}
	tries := func(r api.Req) {
		t.Helper()
		if reqs.Check(r) != api.OK {
			return
		}
		if !shared(r) {
			t.Fatal("not what all share", r)
		}
		count[r.No]++
		o := kernel.Step(w, api.Step{Pid: 1, Req: r})
		now := w.Dump()
		if want := (api.Out{Mark: api.Done, Res: api.Res{Err: api.ECAPMODE}}); !reflect.DeepEqual(o, want) || !reflect.DeepEqual(was, now) {
			t.Fatal(r, o)
		}
		if e := Effects(was, now); len(e) > 0 {
			t.Fatal(r, e)
		}
	}
	for no := 1; no <= api.Calls; no++ {
		call, _ := calls.Get(no)
		for _, s := range paths {
			for n := range 300 {
				r := asks(no, n%7-1, n/7%5-1, n/35%4)
				switch {
				case call.Gate == api.GateOpen:
					continue
				case call.Gate == api.GateBelow:
					r.A[0] = api.AtCwd
				}
				r.S = s
				tries(r)
				r.T = paths[n%len(paths)]
				tries(r)
				if r.S = ""; s == "" {
					r.T = ""
					tries(r)
				}
			}
		}
	}
	for _, no := range []int{renameat, linkat} {
		tries(both(no, "d/f", "x", 0, api.AtCwd))
		tries(both(no, "/d/f", "/x", api.AtCwd, 0))
	}
	for no := 1; no <= api.Calls; no++ {
		if call, _ := calls.Get(no); call.Gate != api.GateOpen && count[no] < 7 {
			t.Error(call.Name, count[no])
		}
	}
}

// P28.6: through a directory's descriptor an absolute path and one out of it are refused, too, and change nothing.
func TestOutOfDirectories(t *testing.T) {
	w := stage(t)
	was := w.Dump()
	for _, s := range []string{"/d", "/", "/x", "//d/f", "..", "../x", "d/..", "d/../x"} {
		for _, r := range []api.Req{says(openat, s, 0), says(openat, s, 0, api.OCreat), says(mkdirat, s, 0), says(unlinkat, s, 0), says(unlinkat, s, 0, 1), both(renameat, s, "x", 0, 0), both(renameat, "b", s, 0, 0), both(linkat, s, "x", 0, 0), both(linkat, "b", s, 0, 0), both(symlinkat, "x", s, 0), says(readlink, s, 0), says(fstatat, s, 0), says(bindat, s, 0, 1), says(connectat, s, 0, 1)} {
			o := kernel.Step(w, api.Step{Pid: 1, Req: r})
			if now := w.Dump(); o.Res.Err != api.ENOTCAPABLE || !reflect.DeepEqual(was, now) || len(Effects(was, now)) > 0 {
				t.Error(r, o)
			}
		}
	}
}

// P28.5: steps in capability mode that change what is come to in a way of its own.
func TestConfined(t *testing.T) {
	for _, x := range []struct {
		name  string
		steps []api.Req // of 2, behind the opening and cap_enter
		want  []api.Obj // Effects of the last one
	}{
		{"a new directory", []api.Req{says(mkdirat, "x", 0)}, objs(1, 2)},
		{"a file that goes", []api.Req{says(unlinkat, "f", 0)}, objs(1, 2, 1, 3)},
		{"a name that goes, of what is held", []api.Req{says(openat, "f", 0), says(unlinkat, "f", 0)}, objs(1, 2)},
		{"a file's bytes", []api.Req{says(openat, "f", 0, api.OBoth), says(write, "x", 6)}, objs(1, 3)},
		{"a connection to a name", []api.Req{asks(sock), says(connectat, "s", 0, 6)}, objs(6, 1, 6, 4)},
		{"one that is accepted", []api.Req{asks(sock), says(connectat, "s", 0, 6), asks(accept, 1)}, objs(6, 1)},
		{"a name bound", []api.Req{asks(sock), says(bindat, "t", 0, 6)}, objs(1, 2, 6, 4)},
		{"bytes to the other end", []api.Req{gives(2, 0)}, objs(6, 3)},
		{"bytes from it", []api.Req{gives(2, 0, 1), asks(recv, 3, 9, 4)}, objs(6, 3)},
		{"an end that is shut", []api.Req{asks(shutdown, 2, 2)}, objs(6, 2)},
		{"an end that stays", []api.Req{asks(shut, 2)}, nil},
		{"an end that goes", []api.Req{asks(pair), asks(shut, 6)}, objs(6, 4, 6, 5)},
		{"an end of a pipe that goes", []api.Req{asks(pipe), asks(dup2, 2, 7)}, objs(5, 2)},
		{"bytes in a pipe", []api.Req{says(write, "x", 5)}, objs(5, 1)},
		{"a process that ends", []api.Req{asks(pdfork), asks(pdkill, 6, 9)}, objs(7, 3)},
		{"a process that goes with its descriptor", []api.Req{asks(pdfork), asks(shut, 6)}, objs(7, 3)},
		{"a process that goes with the one that has it", []api.Req{asks(pdfork), asks(exit, 3)}, objs(7, 2, 7, 3)},
		{"one that is waited for", []api.Req{asks(pdfork), asks(pdkill, 6, 9), asks(pdwait, 6, 0)}, objs(7, 3)},
		{"a fork", []api.Req{asks(fork)}, nil},
	} {
		w := world.New(api.Limits{Procs: 5, Fds: 16, Files: 20, Inodes: 20, Blocks: 8, Pipe: 4, Sock: 4})
		for _, r := range []api.Req{says(mkdir, "d"), says(open, "d/f", api.OCreat), asks(shut, 0), says(open, "d"), asks(sock), says(bind, "d/s", 1), asks(listen, 1, 2), asks(pair), asks(pipe), asks(fork)} {
			if res := kernel.Do(w, 1, r); res.Err != api.OK {
				t.Fatal(x.name, r, res)
			}
		}
		kernel.Do(w, 2, asks(enter))
		var was api.Dump
		for _, r := range x.steps {
			was = w.Dump()
			if o := kernel.Step(w, api.Step{Pid: 2, Req: r}); o.Res.Err != api.OK {
				t.Fatal(x.name, r, o)
			}
			if l := Outside(was, w.Dump(), 2); len(l) > 0 {
				t.Error(x.name, r, "outside", l)
			}
		}
		if e := Effects(was, w.Dump()); !slices.Equal(e, x.want) {
			t.Error(x.name, e, "not", x.want)
		}
	}
}

// within tells whether all of a is in b.
func within(a, b []api.Obj) bool {
	return !slices.ContainsFunc(a, func(o api.Obj) bool { return !slices.Contains(b, o) })
}

// P28.7: with one descriptor more of each kind, and of what is not there, no less is come to, and that thing is.
func TestMore(t *testing.T) {
	was := scene()
	was.Held, was.Files = held(2, 1), files(api.KPipe, 2, api.KFile, 3, api.KDir, 1, api.KPipe, 1, api.KSock, 1, api.KSock, 2, api.KProc, 1, api.KProc, 2, api.KProc, 3, api.KDir, 9, api.KProc, 9, 0, 1)
	few := Authority(was, 2)
	if !slices.Equal(few, objs(1, 2, 5, 2, 7, 2)) {
		t.Fatal(few)
	}
	for id, want := range map[int][]api.Obj{
		1: few, 2: objs(1, 2, 1, 3, 5, 2, 7, 2), 3: objs(1, 1, 1, 2, 1, 3, 5, 2, 7, 2), 4: objs(1, 2, 5, 1, 5, 2, 7, 2), 5: objs(1, 2, 5, 2, 6, 1, 6, 3, 6, 4, 7, 2),
		6: objs(1, 1, 1, 2, 1, 3, 5, 2, 6, 2, 6, 3, 7, 2), 7: objs(1, 1, 1, 2, 5, 2, 7, 1, 7, 2), 8: few, 9: objs(1, 2, 5, 2, 7, 2, 7, 3), 10: objs(1, 2, 1, 9, 5, 2, 7, 2), 11: objs(1, 2, 5, 2, 7, 2, 7, 9), 12: few, 13: few,
	} {
		d := was
		d.Held = append(held(2, 1), api.Held{Pid: 2, Fd: 5, Slot: api.Slot{File: id}})
		got := Authority(d, 2)
		if !slices.Equal(got, want) || !within(few, got) {
			t.Error(id, got, "not", want)
		}
		d.Held[1].Pid = 3
		if got := Authority(d, 2); !slices.Equal(got, few) {
			t.Error(id, "of another one", got)
		}
	}
}
