package census

import (
	"fmt"
	"math"
	"slices"
	"strings"
	"testing"

	"purlieu/api"
	"purlieu/run"
)

// Calls, by their numbers.
const (
	exit     = 1
	fork     = 2
	read     = 3
	write    = 4
	open     = 5
	shut     = 6 // close
	wait     = 7
	link     = 8
	unlink   = 9
	chdir    = 10
	mkdir    = 12
	rmdir    = 13
	kill     = 16
	dup      = 17
	pipe     = 19
	sock     = 41 // socket
	pair     = 42 // socketpair
	bind     = 43
	listen   = 45
	connect  = 46
	accept   = 48
	shutdown = 49
	send     = 50
	recv     = 51
	pdfork   = 53
	pdkill   = 55
	enter    = 57 // cap_enter
)

// asks answers a request with numbers.
func asks(no int, a ...int) api.Req {
	r := api.Req{No: no}
	copy(r.A[:], a)
	return r
}

// says answers a request with a text.
func says(no int, s string, a ...int) api.Req {
	r := asks(no, a...)
	r.S = s
	return r
}

// both answers a request with two texts.
func both(no int, s, t string, a ...int) api.Req {
	r := says(no, s, a...)
	r.T = t
	return r
}

// gives answers a request to send a byte with descriptors.
func gives(fd int, l ...int) api.Req {
	r := says(send, "x", fd)
	r.L = l
	return r
}

// just is as much as there is in the sample, and no more.
var just = api.Limits{Procs: 3, Fds: 10, Files: 10, Inodes: 6, Blocks: 1, Pipe: 2, Sock: 2}

// sample answers all there is behind a script that leaves something of each sort: directories one in the other, a file with two names, a directory without a name that is open, a pipe with both ends and one with its reading end alone, a socket at which another one waits, a pair with descriptors passed in two parts, a process in capability mode, one that ended.
func sample(t *testing.T) api.Dump {
	t.Helper()
	var s []api.Step
	does := func(pid int, l ...api.Req) {
		for _, r := range l {
			s = append(s, api.Step{Pid: pid, Req: r})
		}
	}
	does(1, says(mkdir, "d"), says(mkdir, "d/e"), says(open, "f", api.OCreat|api.OBoth), says(write, "hello", 0), both(link, "f", "d/g"))
	does(1, says(mkdir, "h"), says(open, "h"), says(rmdir, "h"))
	does(1, asks(pipe), says(write, "ab", 3), asks(pipe), asks(shut, 5))
	does(1, asks(sock), says(bind, "b", 5), asks(listen, 5, 3), asks(sock), says(connect, "b", 6), asks(pair), gives(7, 0, 2), gives(7, 4))
	does(1, asks(fork), asks(pdfork), asks(shut, 4))
	does(2, says(chdir, "d"), asks(enter), asks(shut, 4))
	does(3, asks(exit, 5))
	o, d, ok := run.Run(api.Limits{Procs: 3, Fds: 10, Files: 11, Inodes: 6, Blocks: 1, Pipe: 2, Sock: 2}, s)
	for i, x := range o {
		if !ok || x.Mark != api.Done || x.Res.Err != api.OK {
			t.Fatalf("%v: %v", s[i], x)
		}
	}
	return d
}

// show answers faults as a text.
func show(l []api.Fault) string {
	var b []string
	for _, x := range l {
		b = append(b, fmt.Sprint([]string{"", "refs", "holds", "links", "sock", "pipe", "name", "tree", "many", "parent", "peer"}[x.Kind], " ", x.ID))
	}
	return strings.Join(b, ", ")
}

// turn is a thing that is turned in a dump, and what is wrong then.
type turn struct {
	turn func(d *api.Dump)
	want string
}

// turns holds what is wrong in the sample, with one thing turned each, against what is to be.
func turns(t *testing.T, l []turn) {
	t.Helper()
	room := api.Limits{Procs: 64, Fds: 64, Files: 256, Inodes: 256, Blocks: 4096, Pipe: 4096, Sock: 4096}
	for i, x := range l {
		d := sample(t)
		x.turn(&d)
		if f := show(Check(d, room)); f != x.want {
			t.Errorf("%d: %s, not %s", i, f, x.want)
		}
	}
}

// P26.1, P26.3: of nothing, of a new world, and of a world with something of each sort there is none.
func TestNothingWrong(t *testing.T) {
	d, l := sample(t), just
	if f := Check(d, l); len(f) != 0 {
		t.Error(show(f))
	}
	if f := Check(api.Dump{}, api.Limits{}); len(f) != 0 {
		t.Error(show(f))
	}
	_, d, ok := run.Run(l, nil)
	if f := Check(d, l); !ok || len(f) != 0 {
		t.Error(show(f))
	}
	if f := Check(d, api.Limits{Procs: 1, Inodes: 1}); len(f) != 0 {
		t.Error(show(f))
	}
}

// P26.1: BadRefs.
func TestRefs(t *testing.T) {
	file := func(id, refs int) api.File { return api.File{ID: id, Kind: api.KProc, Obj: 3, Refs: refs} }
	passes := func(l ...int) (p api.Part) {
		for _, id := range l {
			p.L = append(p.L, api.Passed{File: id})
		}
		return p
	}
	turns(t, []turn{
		{func(d *api.Dump) { d.Files[0].Refs++ }, "refs 1"},
		{func(d *api.Dump) { d.Files[0].Refs-- }, "refs 1"},
		{func(d *api.Dump) { d.Files[4].Refs = 0 }, "refs 5"},
		{func(d *api.Dump) { d.Files[4].Refs = -1 }, "refs 5"},
		{func(d *api.Dump) { d.Files[3].Refs = math.MinInt }, "refs 4"},
		{func(d *api.Dump) { d.Files = append(d.Files, file(20, 0)) }, "refs 20"},
		{func(d *api.Dump) { d.Files = append(d.Files, file(20, 1), file(-3, 0), file(0, 0), file(12, -1)) }, "refs 20, refs -3, refs 0, refs 12"},
		{func(d *api.Dump) { d.Files = append(d.Files, file(20, 1), file(20, 0), file(21, 0), file(20, 4)) }, "refs 20, refs 21"},
		{func(d *api.Dump) { d.Files = append(d.Files, file(1, 3)) }, ""},
		{func(d *api.Dump) { d.Files = append(d.Files, file(1, 2)) }, "refs 1"},
		{func(d *api.Dump) { d.Held = d.Held[1:] }, "refs 1"},
		{func(d *api.Dump) { d.Held = append(d.Held, d.Held[0]) }, "refs 1"},
		{func(d *api.Dump) { d.Held = append(d.Held, api.Held{Pid: 9, Fd: 3, Slot: api.Slot{File: 11}}) }, "refs 11"},
		{func(d *api.Dump) { d.Held[0].Slot.File = 2 }, "refs 1, refs 2"},
		{func(d *api.Dump) { d.Socks[4].Parts = nil }, "refs 1, refs 3, refs 5"},
		{func(d *api.Dump) { d.Socks[4].Parts[1] = api.Part{} }, "refs 5"},
		{func(d *api.Dump) { d.Socks[4].Parts[0].L = d.Socks[4].Parts[0].L[1:] }, "refs 1"},
		{func(d *api.Dump) { d.Socks[0].Parts = []api.Part{{}, passes(7, 11), passes(2)} }, "refs 2, refs 7, refs 11"},
		{func(d *api.Dump) {
			d.Socks[0].Parts, d.Socks[2].Parts = []api.Part{passes(11), passes(11)}, []api.Part{passes(11, 11)}
		}, "refs 11"},
		{func(d *api.Dump) {
			d.Socks[0].Parts, d.Socks[2].Parts = []api.Part{passes(11), passes(11)}, []api.Part{passes(11, 11)}
			d.Files[9].Refs = 5
		}, ""},
		{func(d *api.Dump) {
			slices.Reverse(d.Files)
			d.Files[0].Refs, d.Files[2].Refs, d.Files[9].Refs = 0, 7, 1
		}, "refs 11, refs 9, refs 1"},
	})
}

// P26.1: BadHolds.
func TestHolds(t *testing.T) {
	turns(t, []turn{
		{func(d *api.Dump) { d.Inodes[0].Holds-- }, "holds 1"},
		{func(d *api.Dump) { d.Inodes[0].Holds++ }, "holds 1"},
		{func(d *api.Dump) { d.Inodes[5].Holds++ }, "holds 6"},
		{func(d *api.Dump) { d.Inodes[5].Holds = -1 }, "holds 6"},
		{func(d *api.Dump) { d.Procs[1].Cwd = 1 }, "holds 1, holds 2"},
		{func(d *api.Dump) { d.Procs[1].Cwd = 0 }, "holds 2"},
		{func(d *api.Dump) { d.Procs[1].Cwd = 4 }, "holds 2, holds 4"},
		{func(d *api.Dump) { d.Procs[1].Lives = false }, "holds 2"},
		{func(d *api.Dump) { d.Procs[2].Cwd = 3 }, ""},
		{func(d *api.Dump) { d.Procs[2].Lives = true }, ""},
		{func(d *api.Dump) { d.Procs[2].Lives, d.Procs[2].Cwd = true, 3 }, "holds 3"},
		{func(d *api.Dump) { d.Procs = append(d.Procs, d.Procs[0]) }, "holds 1"},
		{func(d *api.Dump) { d.Files[0].Kind = api.KDir }, ""},
		{func(d *api.Dump) { d.Files[0].Kind = api.KProc }, "holds 4"},
		{func(d *api.Dump) { d.Files[0].Kind = api.KSymlink }, "holds 4"},
		{func(d *api.Dump) { d.Files[0].Kind = api.KBound }, "holds 4"},
		{func(d *api.Dump) { d.Files[0].Obj = 6 }, "holds 4, holds 6"},
		{func(d *api.Dump) { d.Files[9].Kind = api.KFile }, "holds 3"},
		{func(d *api.Dump) { d.Files[9].Kind, d.Files[9].Obj = api.KDir, 1 }, "holds 1"},
		{func(d *api.Dump) { d.Files = append(d.Files, d.Files[0]) }, "holds 4"},
		{func(d *api.Dump) { d.Inodes = append(d.Inodes, api.Inode{Ino: 4, Kind: api.KFile, Links: 2, Holds: 1}) }, ""},
		{func(d *api.Dump) { d.Inodes = append(d.Inodes, api.Inode{Ino: 4, Kind: api.KFile, Links: 2, Holds: 2}) }, "holds 4"},
		{func(d *api.Dump) {
			slices.Reverse(d.Inodes)
			for i := range d.Inodes {
				d.Inodes[i].Holds++
			}
			d.Inodes = append(d.Inodes, d.Inodes[3])
		}, "holds 6, holds 5, holds 4, holds 3, holds 2, holds 1"},
	})
}

// P26.1: BadLinks.
func TestLinks(t *testing.T) {
	turns(t, []turn{
		{func(d *api.Dump) { d.Inodes[3].Links++ }, "links 4"},
		{func(d *api.Dump) { d.Inodes[3].Links = 0 }, "links 4"},
		{func(d *api.Dump) { d.Inodes[3].Links = -2 }, "links 4"},
		{func(d *api.Dump) { d.Inodes[0].Links = 1 }, "links 1"},
		{func(d *api.Dump) { d.Inodes[5].Links = 0 }, "links 6"},
		{func(d *api.Dump) { d.Inodes[4].Holds = 0 }, "holds 5, links 5"},
		{func(d *api.Dump) { d.Inodes[4].Holds = -1 }, "holds 5, links 5"},
		{func(d *api.Dump) { d.Inodes[4].Holds = 2 }, "holds 5"},
		{func(d *api.Dump) { d.Files = slices.Delete(d.Files, 1, 2); d.Inodes[4].Holds = 0 }, "links 5, name 1, name 2"},
		{func(d *api.Dump) { d.Inodes = append(d.Inodes, api.Inode{Ino: 7, Kind: api.KFile}) }, "links 7"},
		{func(d *api.Dump) { d.Inodes = append(d.Inodes, api.Inode{Ino: 7, Kind: api.KFile, Holds: 1}) }, "holds 7"},
		{func(d *api.Dump) { d.Inodes = append(d.Inodes, api.Inode{Ino: 7, Kind: api.KFile, Links: 1}) }, "links 7"},
		{func(d *api.Dump) { d.Inodes[0].Inos = d.Inodes[0].Inos[1:] }, "links 6"},
		{func(d *api.Dump) { d.Inodes[0].Inos[0] = 4 }, "links 4, links 6"},
		{func(d *api.Dump) { d.Inodes[0].Inos = append(d.Inodes[0].Inos, 4) }, "links 4"},
		{func(d *api.Dump) { d.Inodes[0].Inos = append(d.Inodes[0].Inos, 4); d.Inodes[3].Links = 3 }, ""},
		{func(d *api.Dump) { d.Inodes[0].Inos = append(d.Inodes[0].Inos, 2); d.Inodes[1].Links = 2 }, ""},
		{func(d *api.Dump) { d.Inodes[4].Inos = []int{6} }, "links 6"},
		{func(d *api.Dump) { d.Inodes[4].Inos = []int{6}; d.Inodes[5].Links = 2 }, ""},
		{func(d *api.Dump) { d.Inodes[1].Inos = append(d.Inodes[1].Inos, 1) }, "links 1"},
		{func(d *api.Dump) { d.Inodes = append(d.Inodes, d.Inodes[3]) }, ""},
		{func(d *api.Dump) { d.Inodes = append(d.Inodes, d.Inodes[0]) }, "links 2, links 4, links 6"},
		{func(d *api.Dump) { d.Inodes = append(d.Inodes, api.Inode{Ino: 4, Links: 3, Holds: 1}) }, "links 4"},
		{func(d *api.Dump) {
			slices.Reverse(d.Inodes)
			for i := range d.Inodes {
				d.Inodes[i].Links -= 3
			}
			d.Inodes = append(d.Inodes, d.Inodes[1])
		}, "links 6, links 5, links 4, links 3, links 2, links 1"},
	})
}

// P26.1: LostSock.
func TestSocks(t *testing.T) {
	turns(t, []turn{
		{func(d *api.Dump) { d.Socks[0].Waits = nil }, "sock 3"},
		{func(d *api.Dump) { d.Socks[0].Waits, d.Socks[1].Waits = nil, []int{3} }, ""},
		{func(d *api.Dump) { d.Socks[0].State = api.SockFresh }, ""},
		{func(d *api.Dump) { d.Socks[0].Waits, d.Socks[2].Waits = nil, []int{3} }, ""},
		{func(d *api.Dump) { d.Socks[0].Waits = []int{3, 3, 1, 77} }, ""},
		{func(d *api.Dump) { d.Files[5].Kind = api.KProc }, "sock 1"},
		{func(d *api.Dump) { d.Files[5].Kind = api.KPipe }, "sock 1"},
		{func(d *api.Dump) { d.Files[5].Obj = 3 }, "sock 1"},
		{func(d *api.Dump) { d.Files[5].Obj = 3; d.Socks[0].Waits = nil }, "sock 1"},
		{func(d *api.Dump) { d.Files[9].Kind, d.Files[9].Obj = api.KSock, 1 }, ""},
		{func(d *api.Dump) { d.Socks = append(d.Socks, api.Sock{ID: 9}) }, "sock 9"},
		{func(d *api.Dump) { d.Socks = append(d.Socks, api.Sock{ID: 9, Waits: []int{9}}) }, ""},
		{func(d *api.Dump) { d.Socks = append(d.Socks, api.Sock{ID: 1}, api.Sock{ID: 3}) }, ""},
		{func(d *api.Dump) {
			d.Socks = append(d.Socks, api.Sock{ID: 9}, api.Sock{ID: 8, Waits: []int{7}}, api.Sock{ID: 9}, api.Sock{ID: 7}, api.Sock{ID: -1}, api.Sock{})
		}, "sock 9, sock 8, sock -1, sock 0"},
	})
}

// P26.1: LostPipe.
func TestPipes(t *testing.T) {
	turns(t, []turn{
		{func(d *api.Dump) { d.Pipes[0].Reads = false }, "pipe 1"},
		{func(d *api.Dump) { d.Pipes[0].Writes = false }, "pipe 1"},
		{func(d *api.Dump) { d.Pipes[1].Writes = true }, "pipe 2"},
		{func(d *api.Dump) { d.Pipes[1].Reads = false }, "pipe 2"},
		{func(d *api.Dump) { d.Pipes[1].Reads, d.Pipes[1].Writes = false, true }, "pipe 2"},
		{func(d *api.Dump) { d.Files[4].Flags = api.OWrite }, "pipe 2"},
		{func(d *api.Dump) {
			d.Files[4].Flags, d.Pipes[1].Reads, d.Pipes[1].Writes = api.OWrite|api.ONonblock, false, true
		}, ""},
		{func(d *api.Dump) { d.Files[4].Flags = api.OBoth | api.OAppend }, ""},
		{func(d *api.Dump) { d.Files[4].Flags = -1 }, "pipe 2"},
		{func(d *api.Dump) { d.Files[3].Flags = 0 }, "pipe 1"},
		{func(d *api.Dump) { d.Files[2].Obj = 2 }, "pipe 1"},
		{func(d *api.Dump) { d.Files[4].Obj = 1 }, "pipe 2"},
		{func(d *api.Dump) { d.Files[4].Kind = api.KProc }, "pipe 2"},
		{func(d *api.Dump) { d.Files[4].Kind = api.KProc; d.Pipes[1].Reads = false }, "pipe 2"},
		{func(d *api.Dump) { d.Files[9].Kind, d.Files[9].Obj = api.KPipe, 1 }, ""},
		{func(d *api.Dump) { d.Pipes = append(d.Pipes, api.Pipe{ID: 3}) }, "pipe 3"},
		{func(d *api.Dump) { d.Pipes = append(d.Pipes, d.Pipes[0]) }, ""},
		{func(d *api.Dump) { d.Pipes = append(d.Pipes, api.Pipe{ID: 1, Reads: true}) }, "pipe 1"},
		{func(d *api.Dump) {
			d.Pipes = append(d.Pipes, api.Pipe{ID: 9, Reads: true}, api.Pipe{ID: -4, Writes: true}, api.Pipe{ID: 9}, api.Pipe{ID: 3, Reads: true, Writes: true})
		}, "pipe 9, pipe -4, pipe 3"},
	})
}

// P26.1: BadName, as the dump has descriptors, open files, sockets, inodes, one behind the other.
func TestNames(t *testing.T) {
	passes := func(l ...int) (p api.Part) {
		for _, id := range l {
			p.L = append(p.L, api.Passed{File: id})
		}
		return p
	}
	turns(t, []turn{
		{func(d *api.Dump) { d.Held[8].Slot.File = 6 }, "refs 11, name 1"},
		{func(d *api.Dump) { d.Held = append(d.Held, api.Held{Pid: 7, Slot: api.Slot{File: 99}}) }, "name 7"},
		{func(d *api.Dump) { d.Held = append(d.Held, api.Held{Pid: 2, Fd: 9}, api.Held{Pid: 2, Fd: 10}) }, "name 2"},
		{func(d *api.Dump) {
			d.Held = append(d.Held, api.Held{Pid: 2, Slot: api.Slot{File: -1}}, api.Held{Pid: 1, Slot: api.Slot{File: math.MinInt}}, api.Held{Pid: 2, Fd: 1})
		}, "name 2, name 1"},
		{func(d *api.Dump) { d.Files = d.Files[:9] }, "name 1"},
		{func(d *api.Dump) { d.Socks[4].Parts = append(d.Socks[4].Parts, passes(0, 99)) }, "name 5"},
		{func(d *api.Dump) {
			d.Socks[4].Parts, d.Socks[3].Parts = append(d.Socks[4].Parts, passes(-1)), []api.Part{passes(), passes(6)}
		}, "name 4, name 5"},
		{func(d *api.Dump) { d.Files[9].Obj = 99 }, ""},
		{func(d *api.Dump) { d.Files[9].Obj = -1 }, ""},
		{func(d *api.Dump) { d.Files[9].Kind, d.Files[9].Obj = api.KFile, 99 }, "name 11"},
		{func(d *api.Dump) { d.Files[9].Kind, d.Files[9].Obj = api.KDir, 7 }, "name 11"},
		{func(d *api.Dump) { d.Files[9].Kind, d.Files[9].Obj = api.KPipe, 3 }, "name 11"},
		{func(d *api.Dump) { d.Files[9].Kind, d.Files[9].Obj = api.KSock, 6 }, "name 11"},
		{func(d *api.Dump) { d.Files[9].Kind, d.Files[9].Obj = api.KSock, 0 }, "name 11"},
		{func(d *api.Dump) { d.Files[9].Kind, d.Files[9].Obj = api.KSymlink, 7 }, "name 11"},
		{func(d *api.Dump) { d.Files[9].Kind, d.Files[9].Obj = api.KBound, 6 }, ""},
		{func(d *api.Dump) { d.Files[9].Kind = 0 }, "name 11"},
		{func(d *api.Dump) { d.Files[9].Kind = 8 }, "name 11"},
		{func(d *api.Dump) { d.Pipes = d.Pipes[1:] }, "name 3, name 4"},
		{func(d *api.Dump) { d.Socks = d.Socks[:3] }, "refs 1, refs 3, refs 5, name 9, name 10"},
		{func(d *api.Dump) { d.Procs = d.Procs[:2] }, ""},
		{func(d *api.Dump) { d.Inodes = d.Inodes[:5] }, "name 1"},
		{func(d *api.Dump) { d.Inodes = slices.Delete(d.Inodes, 3, 4) }, "name 1, name 2"},
		{func(d *api.Dump) { d.Inodes[4].Inos = []int{0, -1, 6} }, "links 6, name 5"},
		{func(d *api.Dump) { d.Inodes[5].Inos = []int{99, 99} }, "name 6"},
		{func(d *api.Dump) { // names of nothing of each sort, by things with other numbers each
			d.Held = append(d.Held, api.Held{Pid: 60, Slot: api.Slot{File: 99}}, api.Held{Pid: 50, Slot: api.Slot{File: 99}})
			d.Files[9].Kind = 9
			d.Socks[4].Parts = append(d.Socks[4].Parts, passes(99))
			d.Inodes[3].Inos = []int{99}
			d.Inodes[1].Inos = append(d.Inodes[1].Inos, 99)
		}, "name 60, name 50, name 11, name 5, name 2, name 4"},
		{func(d *api.Dump) { // and by things with the same numbers
			d.Held = append(d.Held, api.Held{Pid: 5, Slot: api.Slot{File: 99}}, api.Held{Pid: 11, Slot: api.Slot{File: 99}})
			d.Files[9].Kind = 9
			d.Socks[4].Parts = append(d.Socks[4].Parts, passes(99))
			d.Socks[3].Parts = append(d.Socks[4].Parts, passes(99))
			d.Inodes[3].Inos = []int{99}
		}, "refs 1, refs 3, refs 5, name 5, name 11, name 4"},
	})
}

// P26.1: BadTree.
func TestTree(t *testing.T) {
	dir := func(ino, parent int, l ...int) api.Inode {
		return api.Inode{Ino: ino, Kind: api.KDir, Links: 1, Parent: parent, Inos: l}
	}
	turns(t, []turn{
		{func(d *api.Dump) { d.Inodes[1].Parent = 99 }, "tree 2, tree 3"},
		{func(d *api.Dump) { d.Inodes[1].Parent = 0 }, "tree 2, tree 3"},
		{func(d *api.Dump) { d.Inodes[1].Parent = -1 }, "tree 2, tree 3"},
		{func(d *api.Dump) { d.Inodes[1].Parent = 2 }, "tree 2, tree 3"},
		{func(d *api.Dump) { d.Inodes[1].Parent = 3 }, "tree 2, tree 3"},
		{func(d *api.Dump) { d.Inodes[1].Parent = 4 }, "tree 2, tree 3"},
		{func(d *api.Dump) { d.Inodes[1].Parent = 4; d.Inodes[3].Parent, d.Inodes[3].Inos = 1, []int{2} }, "links 2, tree 2, tree 3"},
		{func(d *api.Dump) { d.Inodes[2].Parent = 1 }, "tree 3"},
		{func(d *api.Dump) { d.Inodes[2].Parent = 3 }, "tree 3"},
		{func(d *api.Dump) { d.Inodes[2].Parent, d.Inodes[2].Inos = 3, []int{3} }, "links 3, tree 3"},
		{func(d *api.Dump) { d.Inodes[2].Parent = 5 }, "tree 3"},
		{func(d *api.Dump) { d.Inodes[2].Parent, d.Inodes[4].Inos = 5, []int{3} }, "links 3"},
		{func(d *api.Dump) { d.Inodes[4].Parent = 99 }, ""},
		{func(d *api.Dump) { d.Inodes[4].Links = 1 }, "links 5, tree 5"},
		{func(d *api.Dump) { d.Inodes[4].Links = -1 }, "links 5"},
		{func(d *api.Dump) { d.Inodes[1].Links = 0 }, "links 2"},
		{func(d *api.Dump) { d.Inodes[1].Inos = d.Inodes[1].Inos[1:] }, "links 3, tree 3"},
		{func(d *api.Dump) { d.Inodes[0].Parent = 99 }, ""},
		{func(d *api.Dump) { d.Inodes[0].Parent, d.Inodes[0].Links = 2, 1 }, "links 1"},
		{func(d *api.Dump) { d.Inodes[1].Kind = api.KFile }, "tree 3"},
		{func(d *api.Dump) { d.Inodes[0].Kind = api.KFile }, "tree 2, tree 3"},
		{func(d *api.Dump) { d.Inodes[3].Parent = 99 }, ""},
		{func(d *api.Dump) { d.Inodes[3].Kind = api.KDir }, "tree 4"},
		{func(d *api.Dump) { d.Inodes = d.Inodes[1:] }, "links 2, links 4, links 6, tree 2, tree 3"},
		{func(d *api.Dump) { d.Inodes = append(d.Inodes, dir(7, 9, 8), dir(8, 7, 9), dir(9, 8, 7), dir(10, 9)) }, "links 10, tree 7, tree 8, tree 9, tree 10"},
		{func(d *api.Dump) { d.Inodes = append(d.Inodes, dir(10, 9), dir(9, 7, 7, 10), dir(7, 9, 9)) }, "tree 10, tree 9, tree 7"},
		{func(d *api.Dump) { d.Inodes = append(d.Inodes, dir(9, 9, 9), dir(8, 9), dir(9, 99), dir(8, 8)) }, "links 8, tree 9, tree 8"},
		{func(d *api.Dump) {
			d.Inodes[2].Inos = []int{9}
			d.Inodes = append(d.Inodes, dir(7, 8), dir(8, 9, 7), dir(9, 3, 8))
		}, ""},
		{func(d *api.Dump) { d.Inodes = append(d.Inodes, api.Inode{Ino: 2, Kind: api.KFile, Links: 1, Holds: 1}) }, ""},
		{func(d *api.Dump) { slices.Reverse(d.Inodes); d.Inodes[4].Parent = 3 }, "tree 3, tree 2"},
	})
}

// P26.1: NoParent.
func TestParents(t *testing.T) {
	turns(t, []turn{
		{func(d *api.Dump) { d.Procs[1].Parent = 0 }, "parent 2"},
		{func(d *api.Dump) { d.Procs[1].Parent = 3 }, "parent 2"},
		{func(d *api.Dump) { d.Procs[1].Parent = -1 }, "parent 2"},
		{func(d *api.Dump) { d.Procs[1].Parent = 2 }, ""},
		{func(d *api.Dump) { d.Procs[2].Parent = 2 }, ""},
		{func(d *api.Dump) { d.Procs[2].Parent = 3 }, "parent 3"},
		{func(d *api.Dump) { d.Procs[0].Parent = 99 }, ""},
		{func(d *api.Dump) { d.Procs[0].Lives = false }, "holds 1, parent 2, parent 3"},
		{func(d *api.Dump) { d.Procs = d.Procs[1:] }, "holds 1, parent 2, parent 3"},
		{func(d *api.Dump) { d.Procs = append(d.Procs, api.Proc{Pid: 1}) }, ""},
		{func(d *api.Dump) { d.Procs = append(d.Procs, api.Proc{Pid: 2, Parent: 9}) }, "parent 2"},
		{func(d *api.Dump) {
			d.Procs = append(d.Procs, api.Proc{Pid: 5}, api.Proc{Pid: 4}, api.Proc{Pid: 5}, api.Proc{})
		}, "parent 5, parent 4, parent 0"},
	})
}

// P26.1: BadPeer.
func TestPeers(t *testing.T) {
	turns(t, []turn{
		{func(d *api.Dump) { d.Socks[3].Peer = 0 }, "peer 5"},
		{func(d *api.Dump) { d.Socks[3].Peer, d.Socks[4].Peer = 0, 0 }, ""},
		{func(d *api.Dump) { d.Socks[3].Peer = 4 }, "peer 5"},
		{func(d *api.Dump) { d.Socks[3].Peer, d.Socks[4].Peer = 4, 5 }, ""},
		{func(d *api.Dump) { d.Socks[3].Peer = 3 }, "peer 4, peer 5"},
		{func(d *api.Dump) { d.Socks[3].Peer = 99 }, "peer 4, peer 5"},
		{func(d *api.Dump) { d.Socks[3].Peer = -1 }, "peer 4, peer 5"},
		{func(d *api.Dump) { d.Socks[0].Peer = 1 }, ""},
		{func(d *api.Dump) { d.Socks[0].Peer = 2 }, "peer 1"},
		{func(d *api.Dump) { d.Socks[1].Peer, d.Socks[3].Peer = 5, 3 }, "peer 2, peer 3, peer 4, peer 5"},
		{func(d *api.Dump) { d.Socks = append(d.Socks, api.Sock{ID: 4, Peer: 2}) }, "peer 4"},
		{func(d *api.Dump) { d.Socks = append(d.Socks, api.Sock{ID: 4}) }, ""},
		{func(d *api.Dump) { d.Socks = append(d.Socks, api.Sock{Peer: 99}) }, "sock 0, peer 0"},
		{func(d *api.Dump) { d.Socks = append(d.Socks, api.Sock{ID: -1, Peer: 2}, api.Sock{ID: -2, Peer: -1}) }, "sock -1, sock -2, peer -1, peer -2"},
		{func(d *api.Dump) {
			slices.Reverse(d.Socks)
			d.Socks[1].Peer = 99
			d.Socks[4].Peer = 99
			d.Socks = append(d.Socks, d.Socks[1])
		}, "peer 5, peer 4, peer 1"},
	})
}

// P26.1: TooMany: limits that are just reached, passed by one, 0 and below.
func TestTooMany(t *testing.T) {
	bytes := func(n int) []api.Part { return []api.Part{{B: make([]byte, n/2)}, {}, {B: make([]byte, n-n/2)}} }
	held := func(pid int, fds ...int) (d api.Dump) {
		for _, fd := range fds {
			d.Held = append(d.Held, api.Held{Pid: pid, Fd: fd})
		}
		return d
	}
	all := api.Limits{Procs: 9, Fds: 9, Files: 9, Inodes: 9, Blocks: 9, Pipe: 9, Sock: 9}
	for i, x := range []struct {
		d    api.Dump
		l    api.Limits
		want string
	}{
		{sample(t), just, ""},
		{sample(t), api.Limits{Procs: 2, Fds: 10, Files: 10, Inodes: 6, Blocks: 1, Pipe: 2, Sock: 2}, "many 1"},
		{sample(t), api.Limits{Procs: 3, Fds: 9, Files: 10, Inodes: 6, Blocks: 1, Pipe: 2, Sock: 2}, "many 5"},
		{sample(t), api.Limits{Procs: 3, Fds: 10, Files: 9, Inodes: 6, Blocks: 1, Pipe: 2, Sock: 2}, "many 2"},
		{sample(t), api.Limits{Procs: 3, Fds: 10, Files: 10, Inodes: 5, Blocks: 1, Pipe: 2, Sock: 2}, "many 3"},
		{sample(t), api.Limits{Procs: 3, Fds: 10, Files: 10, Inodes: 6, Blocks: 0, Pipe: 2, Sock: 2}, "many 4"},
		{sample(t), api.Limits{Procs: 3, Fds: 10, Files: 10, Inodes: 6, Blocks: 1, Pipe: 1, Sock: 2}, "many 6"},
		{sample(t), api.Limits{Procs: 3, Fds: 10, Files: 10, Inodes: 6, Blocks: 1, Pipe: 2, Sock: 1}, "many 7"},
		{sample(t), api.Limits{}, "many 1, many 2, many 3, many 4, many 5, many 6, many 7"},
		{sample(t), api.Limits{Procs: math.MinInt, Fds: math.MinInt, Files: math.MinInt, Inodes: math.MinInt, Blocks: math.MinInt, Pipe: math.MinInt, Sock: math.MinInt}, "many 1, many 2, many 3, many 4, many 5, many 6, many 7"},
		{api.Dump{}, api.Limits{}, ""},
		{api.Dump{}, api.Limits{Procs: -1, Fds: -1, Files: -1, Inodes: -1, Blocks: -1, Pipe: -1, Sock: -1}, "many 1, many 2, many 3, many 4"},
		{api.Dump{Procs: []api.Proc{{Pid: 1}}}, api.Limits{Procs: 1}, ""},
		{api.Dump{Procs: []api.Proc{{Pid: 1}}}, api.Limits{Procs: 1, Fds: -1}, "many 5"},
		{api.Dump{Procs: []api.Proc{{Pid: 1}, {Pid: 1}}}, api.Limits{Procs: 1}, "many 1"},
		{api.Dump{Pipes: []api.Pipe{{}}, Socks: []api.Sock{{}}}, api.Limits{}, "sock 0, pipe 0"},
		{api.Dump{Pipes: []api.Pipe{{}}, Socks: []api.Sock{{}}}, api.Limits{Pipe: -1}, "sock 0, pipe 0, many 6"},
		{api.Dump{Pipes: []api.Pipe{{}}, Socks: []api.Sock{{}}}, api.Limits{Sock: -1}, "sock 0, pipe 0, many 7"},
		{api.Dump{Pipes: []api.Pipe{{B: "123456789"}, {}}}, all, "pipe 0"},
		{api.Dump{Pipes: []api.Pipe{{}, {B: "1234567890"}, {}}}, all, "pipe 0, many 6"},
		{api.Dump{Pipes: []api.Pipe{{B: "123456"}, {B: "123456"}}}, all, "pipe 0"},
		{api.Dump{Socks: []api.Sock{{Parts: bytes(9)}, {}}}, all, "sock 0"},
		{api.Dump{Socks: []api.Sock{{}, {Parts: bytes(10)}, {}}}, all, "sock 0, many 7"},
		{api.Dump{Socks: []api.Sock{{Parts: bytes(6)}, {Parts: bytes(6)}}}, all, "sock 0"},
		{api.Dump{Inodes: []api.Inode{{Ino: 1, Holds: 1, Blocks: 4}, {Ino: 1, Holds: 1, Blocks: 5}}}, all, ""},
		{api.Dump{Inodes: []api.Inode{{Ino: 1, Holds: 1, Blocks: 5}, {Ino: 1, Holds: 1, Blocks: 5}}}, all, "many 4"},
		{api.Dump{Inodes: []api.Inode{{Ino: 1, Holds: 1, Blocks: 15}, {Ino: 1, Holds: 1, Blocks: -9}}}, all, ""},
		{held(3, 0, 8), all, "name 3"},
		{held(3, 9), all, "name 3, many 5"},
		{held(3, 0, -1), all, "name 3, many 5"},
		{held(3, math.MinInt), all, "name 3, many 5"},
		{held(3, math.MaxInt), all, "name 3, many 5"},
		{held(3, 0, 0, 0, 1, 1, 1, 2, 2, 2), all, "name 3"},
		{held(3, 0, 0, 0, 1, 1, 1, 2, 2, 2, 3), all, "name 3, many 5"},
		{api.Dump{Held: append(held(3, 0, 1, 2, 3, 4).Held, held(4, 0, 1, 2, 3, 4).Held...)}, all, "name 3, name 4"},
		{api.Dump{Held: append(held(3, 0).Held, held(4, 12).Held...)}, all, "name 3, name 4, many 5"},
		{held(3, 0), api.Limits{}, "name 3, many 5"},
	} {
		if f := show(Check(x.d, x.l)); f != x.want {
			t.Errorf("%d: %s, not %s", i, f, x.want)
		}
	}
}

// P26.1: faults of all kinds, by kinds.
func TestAllKinds(t *testing.T) {
	turns(t, []turn{{func(d *api.Dump) {
		d.Files[9].Refs, d.Files[0].Refs = 0, 0
		d.Inodes[3].Holds, d.Inodes[5].Links, d.Inodes[2].Parent = 9, 9, 9
		d.Socks[0].Waits, d.Socks[4].Peer = nil, 3
		d.Pipes[0].Reads = false
		d.Held = append(d.Held, api.Held{Pid: 77, Fd: 77})
		d.Procs[2].Parent = 9
	}, "refs 1, refs 11, holds 4, links 6, sock 3, pipe 1, name 77, tree 3, many 5, parent 3, peer 4, peer 5"}})
	if kinds := []int{api.BadRefs, api.BadHolds, api.BadLinks, api.LostSock, api.LostPipe, api.BadName, api.BadTree, api.TooMany, api.NoParent, api.BadPeer}; !slices.Equal(kinds, []int{1, 2, 3, 4, 5, 6, 7, 8, 9, 10}) {
		t.Error(kinds)
	}
}

// P26.2: how much there is.
func TestCounts(t *testing.T) {
	for i, x := range []struct {
		d    api.Dump
		want [7]int
	}{
		{api.Dump{}, [7]int{}},
		{sample(t), [7]int{3, 17, 10, 2, 5, 6, 1}},
		{api.Dump{Procs: make([]api.Proc, 1), Held: make([]api.Held, 2), Parks: make([]api.Park, 9), Files: make([]api.File, 3), Pipes: make([]api.Pipe, 4), Socks: make([]api.Sock, 5), Inodes: make([]api.Inode, 6), Next: [5]int{9, 9, 9, 9, 9}}, [7]int{1, 2, 3, 4, 5, 6, 0}},
		{api.Dump{Inodes: []api.Inode{{Ino: 1, Blocks: 2}, {Ino: 1, Blocks: 2}, {Ino: 3, Blocks: 30}}}, [7]int{5: 3, 6: 34}},
		{api.Dump{Inodes: []api.Inode{{Ino: 1, Blocks: 2}, {Ino: -1, Blocks: -3}}}, [7]int{5: 2, 6: -1}},
		{api.Dump{Procs: []api.Proc{{Pid: 1}, {Pid: 1}}, Held: make([]api.Held, 100)}, [7]int{2, 100}},
	} {
		if n := Counts(x.d); n != x.want {
			t.Errorf("%d: %v, not %v", i, n, x.want)
		}
	}
}

// P26.1: a way up is gone once, however many begin on it.
func TestLongWays(t *testing.T) {
	const n = 200000
	d := api.Dump{}
	for ino := n; ino > 0; ino-- {
		d.Inodes = append(d.Inodes, api.Inode{Ino: ino, Kind: api.KDir, Links: 1, Parent: ino - 1, Inos: []int{ino + 1}})
	}
	d.Inodes[0].Inos, d.Inodes[n-1].Links, d.Inodes[n-1].Holds = nil, 0, 1
	l := api.Limits{Inodes: n}
	if f := Check(d, l); len(f) != 0 {
		t.Error(show(f[:min(9, len(f))]))
	}
	d.Inodes[n-2].Parent = n / 2
	if f := Check(d, l); len(f) != n-1 || f[0] != (api.Fault{Kind: api.BadTree, ID: n}) || f[n-2] != (api.Fault{Kind: api.BadTree, ID: 2}) {
		t.Error(len(f))
	}
}
