package run

import (
	"fmt"
	"math"
	"slices"
	"strings"
	"testing"

	"purlieu/api"
)

// Calls, by their numbers.
const (
	exit     = 1
	fork     = 2
	read     = 3
	write    = 4
	open     = 5
	shut     = 6 // close
	wait     = 7
	link     = 8
	unlink   = 9
	chdir    = 10
	fchdir   = 11
	mkdir    = 12
	rmdir    = 13
	getpid   = 14
	getppid  = 15
	kill     = 16
	dup      = 17
	dup2     = 18
	pipe     = 19
	fcntl    = 20
	ioctl    = 21
	symlink  = 22
	readlink = 23
	rename   = 24
	lseek    = 25
	cuts     = 26 // ftruncate
	fstat    = 27
	stat     = 28
	fsync    = 29
	pread    = 30
	pwrite   = 31
	getdents = 32
	openat   = 33
	mkdirat  = 34
	unlinkat = 35
	renameat = 36
	linkat   = 37
	symlnkat = 38 // symlinkat
	readlnat = 39 // readlinkat
	fstatat  = 40
	sock     = 41 // socket
	pair     = 42 // socketpair
	bind     = 43
	bindat   = 44
	listen   = 45
	connect  = 46
	connctat = 47 // connectat
	accept   = 48
	shutdown = 49
	send     = 50
	recv     = 51
	poll     = 52
	pdfork   = 53
	pdgetpid = 54
	pdkill   = 55
	pdwait   = 56
	enter    = 57 // cap_enter
	getmode  = 58
	limit    = 59 // cap_rights_limit
	rights   = 60 // cap_rights_get
	ioctls   = 61 // cap_ioctls_limit
	ioctlsOf = 62 // cap_ioctls_get
	fcntls   = 63 // cap_fcntls_limit
	fcntlsOf = 64 // cap_fcntls_get
)

// noCalls are numbers of no call.
var noCalls = []int{0, 65, 66, -1, -3, 1000, math.MaxInt, math.MinInt}

// few is how much there may be, if nothing else is said.
var few = api.Limits{Procs: 4, Fds: 9, Files: 12, Inodes: 10, Blocks: 8, Pipe: 4, Sock: 4}

// most is how much there may be, at most.
var most = api.Limits{Procs: 64, Fds: 64, Files: 256, Inodes: 256, Blocks: 4096, Pipe: 4096, Sock: 4096}

// none are limits with which there can be no world.
var none = api.Limits{Procs: 4, Fds: 9, Files: 12, Inodes: 10, Blocks: 8, Pipe: 4, Sock: 0}

// asks answers a request with numbers.
func asks(no int, a ...int) api.Req {
	r := api.Req{No: no}
	copy(r.A[:], a)
	return r
}

// says answers a request with a text.
func says(no int, s string, a ...int) api.Req {
	r := asks(no, a...)
	r.S = s
	return r
}

// both answers a request with two texts.
func both(no int, s, t string, a ...int) api.Req {
	r := says(no, s, a...)
	r.T = t
	return r
}

// lists answers a request with a list.
func lists(no int, l []int, a ...int) api.Req {
	r := asks(no, a...)
	r.L = l
	return r
}

// gives answers a request to send a byte with descriptors.
func gives(fd int, l ...int) api.Req {
	r := says(send, "x", fd)
	r.L = l
	return r
}

// anything is what is asked for where it is to play no part.
var anything = asks(getpid)

// tells answers what comes of a step as a text: its mark, and its error, number, text and list, as far as they are not zero.
func tells(x api.Out) string {
	l := []string{[]string{"idle", "done", "parked", "woken"}[x.Mark]}
	if x.Res.Err != api.OK {
		l = append(l, fmt.Sprintf("error %d", int(x.Res.Err)))
	}
	if x.Res.Val != 0 {
		l = append(l, fmt.Sprint(x.Res.Val))
	}
	if x.Res.S != "" {
		l = append(l, x.Res.S)
	}
	if len(x.Res.L) > 0 {
		l = append(l, fmt.Sprint(x.Res.L))
	}
	return strings.Join(l, " ")
}

// texts answers what comes of all steps as texts.
func texts(l []api.Out) (s []string) {
	for _, x := range l {
		s = append(s, tells(x))
	}
	return s
}

// row is a step, and what is to come of it.
type row struct {
	pid  int
	r    api.Req
	want string
}

// steps answers the steps of rows, and what is to come of them.
func steps(l []row) (s []api.Step, want []string) {
	for _, x := range l {
		s = append(s, api.Step{Pid: x.pid, Req: x.r})
		want = append(want, x.want)
	}
	return s, want
}

// runs holds what comes of a script against what is to come, and against the plain kernel, and answers all there is behind it.
func runs(t *testing.T, l api.Limits, rows []row) api.Dump {
	t.Helper()
	s, want := steps(rows)
	o, d, ok := Run(l, s)
	got := texts(o)
	if !ok || len(got) != len(want) {
		t.Fatalf("%d steps, not %d; %t", len(got), len(want), ok)
	}
	for i, x := range rows {
		if got[i] != x.want {
			t.Fatalf("step %d: %d: %v: %s, not %s", i, x.pid, x.r, got[i], x.want)
		}
	}
	agrees(t, l, s)
	return d
}

// The document's example.
func TestExample(t *testing.T) {
	o, _, ok := Run(few, []api.Step{{Pid: 1, Req: api.Req{No: 14}}})
	if !ok || len(o) != 1 || o[0].Mark != api.Done || o[0].Res.Val != 1 || tells(o[0]) != "done 1" {
		t.Error(o, ok)
	}
}

// P25.1: of no steps nothing comes, and there is what is in a new world.
func TestNoSteps(t *testing.T) {
	want := api.Dump{
		Procs:  []api.Proc{{Pid: 1, Lives: true, Cwd: 1}},
		Inodes: []api.Inode{{Ino: 1, Kind: api.KDir, Holds: 2, Parent: 1}},
		Next:   [5]int{2, 1, 1, 1, 2},
	}
	for _, s := range [][]api.Step{nil, {}} {
		for _, l := range []api.Limits{few, most, {Procs: 1, Fds: 1, Files: 1, Inodes: 1, Pipe: 1, Sock: 1}} {
			o, d, ok := Run(l, s)
			if !ok || len(o) > 0 || fmt.Sprint(d) != fmt.Sprint(want) {
				t.Errorf("%v: %v %v %t", l, o, d, ok)
			}
			if o, more := Feed(l, s, 5); len(o) > 0 || more != 0 {
				t.Errorf("%v: Feed: %v %d", l, o, more)
			}
			if o := Until(l, s, api.Done); len(o) > 0 {
				t.Errorf("%v: Until: %v", l, o)
			}
		}
	}
}

// everyCall is a script in which each call is done.
func everyCall() []row {
	less, all := words(api.CapRead), words(api.CapAll)
	return []row{
		{1, says(mkdir, "d"), "done"},
		{1, says(open, "d", 0), "done"},
		{1, says(openat, "f", 0, api.OCreat|api.OBoth), "done 1"},
		{1, says(write, "hello", 1), "done 5"},
		{1, says(pwrite, "a", 1, 1), "done 1"},
		{1, asks(lseek, 1, 0, 0), "done"},
		{1, asks(read, 1, 9), "done 5 hallo"},
		{1, asks(pread, 1, 2, 3), "done 2 lo"},
		{1, asks(cuts, 1, 2), "done"},
		{1, asks(fsync, 1), "done"},
		{1, asks(fstat, 1), "done [1 2 1 1]"},
		{1, both(link, "d/f", "g"), "done"},
		{1, says(stat, "g"), "done [1 2 2 1]"},
		{1, says(fstatat, "f", 0), "done [1 2 2 1]"},
		{1, both(symlink, "d/f", "l"), "done"},
		{1, says(readlink, "l"), "done 3 d/f"},
		{1, both(symlnkat, "f", "m", 0), "done"},
		{1, says(readlnat, "m", 0), "done 1 f"},
		{1, both(rename, "g", "h"), "done"},
		{1, both(renameat, "f", "i", 0, api.AtCwd), "done"},
		{1, both(linkat, "i", "k", api.AtCwd, 0), "done"},
		{1, says(unlink, "h"), "done"},
		{1, says(unlinkat, "k", 0), "done"},
		{1, says(mkdirat, "e", 0), "done"},
		{1, asks(getdents, 0, 9), "done 2 e/m"},
		{1, says(chdir, "d"), "done"},
		{1, says(rmdir, "e"), "done"},
		{1, asks(fchdir, 0), "done"},
		{1, asks(getpid), "done 1"},
		{1, asks(getppid), "done"},
		{1, asks(dup, 1), "done 2"},
		{1, asks(dup2, 1, 3), "done 3"},
		{1, asks(shut, 2), "done"},
		{1, asks(fcntl, 1, 3), "done 2"},
		{1, asks(lseek, 1, -1, 2), "done 1"},
		{1, asks(ioctl, 1, 1), "done 1"},
		{1, asks(pipe), "done 2 [2 4]"},
		{1, asks(fork), "done 2"},
		{2, asks(getppid), "done 1"},
		{2, asks(read, 2, 9), "parked"},
		{1, lists(poll, []int{4, 2, 2, 1}), "done 1 [2 0]"},
		{1, says(write, "x", 4), "done 1"},
		{2, anything, "woken 1 x"},
		{1, asks(wait, -1), "parked"},
		{2, asks(exit, 3), "done"},
		{1, anything, "woken 2 [3]"},
		{1, asks(fork), "done 3"},
		{1, asks(kill, 3, 9), "done"},
		{3, anything, "idle"},
		{1, asks(wait, 3), "done 3 [137]"},
		{1, asks(sock), "done 5"},
		{1, says(bind, "s", 5), "done"},
		{1, asks(listen, 5, 1), "done"},
		{1, asks(sock), "done 6"},
		{1, says(connect, "s", 6), "done"},
		{1, asks(accept, 5), "done 7"},
		{1, gives(6, 1), "done 1"},
		{1, asks(recv, 7, 9, 1), "done 1 x [8]"},
		{1, asks(pread, 8, 9, 0), "done 2 ha"},
		{1, asks(shutdown, 7, 1), "done"},
		{1, asks(recv, 6, 9), "done"},
		{1, asks(pair), "done 9 [9 10]"},
		{1, asks(sock), "done 11"},
		{1, says(bindat, "t", 0, 11), "done"},
		{1, asks(listen, 11, 2), "done"},
		{1, asks(sock), "done 12"},
		{1, says(connctat, "t", 0, 12), "done"},
		{1, asks(pdfork), "done 13"},
		{1, asks(pdgetpid, 13), "done 4"},
		{1, asks(pdwait, 13), "parked"},
		{4, asks(exit, 5), "done"},
		{1, anything, "woken 1 [5]"},
		{1, asks(pdkill, 13, 9), "done error 3"},
		{1, asks(pdfork), "done 14"},
		{1, asks(pdkill, 14, 1), "done"},
		{1, asks(pdwait, 14), "done 1 [129]"},
		{1, asks(fork), "done 6"},
		{6, asks(getmode), "done"},
		{6, asks(enter), "done"},
		{6, asks(getmode), "done 1"},
		{6, says(open, "l", 0), "done error 94"},
		{6, says(openat, "m", 0), "done error 2"},
		{6, says(openat, "../i", 0), "done error 93"},
		{6, asks(rights, 1), fmt.Sprint("done ", all)},
		{6, lists(limit, less, 1), "done"},
		{6, asks(rights, 1), fmt.Sprint("done ", less)},
		{6, says(write, "x", 1), "done error 93"},
		{6, lists(ioctls, []int{2, 1}, 9), "done"},
		{6, asks(ioctlsOf, 9), "done 2 [1 2]"},
		{6, asks(fcntls, 9, api.FcntlGetfl), "done"},
		{6, asks(fcntlsOf, 9), "done 8"},
	}
}

// P25.1: a script of every call, by several processes.
func TestEveryCall(t *testing.T) {
	rows := everyCall()
	d := runs(t, api.Limits{Procs: 3, Fds: 16, Files: 20, Inodes: 9, Blocks: 1, Pipe: 4, Sock: 4}, rows)
	asked := map[int]bool{}
	for _, x := range rows {
		asked[x.r.No] = true
	}
	if len(asked) != api.Calls {
		t.Errorf("%d calls", len(asked))
	}
	if got := fmt.Sprint(d.Next, d.Procs); got != "[7 14 2 9 9] [{1 0 true 0 false false 2} {6 1 true 0 false true 2}]" {
		t.Error(got)
	}
}

// P25.1: all there is behind a script.
func TestAllThereIs(t *testing.T) {
	full := full(0)
	slot := func(pid, fd, file int) api.Held {
		return api.Held{Pid: pid, Fd: fd, Slot: api.Slot{File: file, Rights: full.Rights, Ioctls: full.Ioctls, Fcntls: full.Fcntls}}
	}
	got := runs(t, few, []row{
		{1, says(mkdir, "d"), "done"},
		{1, says(open, "d/f", api.OCreat|api.OWrite|api.OAppend), "done"},
		{1, says(write, "ab", 0), "done 2"},
		{1, asks(pair), "done 1 [1 2]"},
		{1, gives(1, 0), "done 1"},
		{1, asks(fork), "done 2"},
		{2, says(chdir, "d"), "done"},
		{2, asks(recv, 1, 3, 1), "parked"},
		{1, asks(shut, 0), "done"},
		{1, asks(getpid), "done 1"},
	})
	want := api.Dump{
		Procs: []api.Proc{{Pid: 1, Lives: true, Cwd: 1}, {Pid: 2, Parent: 1, Lives: true, Cwd: 2}},
		Held:  []api.Held{slot(1, 1, 2), slot(1, 2, 3), slot(2, 0, 1), slot(2, 1, 2), slot(2, 2, 3)},
		Parks: []api.Park{{Pid: 2, Req: asks(recv, 1, 3, 1)}},
		Files: []api.File{{ID: 1, Kind: api.KFile, Obj: 3, Off: 2, Flags: api.OWrite | api.OAppend, Refs: 2}, {ID: 2, Kind: api.KSock, Obj: 1, Flags: api.OBoth, Refs: 2}, {ID: 3, Kind: api.KSock, Obj: 2, Flags: api.OBoth, Refs: 2}},
		Socks: []api.Sock{{ID: 1, State: api.SockJoined, Peer: 2}, {ID: 2, State: api.SockJoined, Peer: 1, Parts: []api.Part{{B: []byte("x"), L: []api.Passed{{File: 1, Rights: full.Rights, Ioctls: full.Ioctls, Fcntls: full.Fcntls}}}}}},
		Inodes: []api.Inode{
			{Ino: 1, Kind: api.KDir, Holds: 2, Parent: 1, Names: []string{"d"}, Inos: []int{2}},
			{Ino: 2, Kind: api.KDir, Links: 1, Holds: 1, Parent: 1, Names: []string{"f"}, Inos: []int{3}},
			{Ino: 3, Kind: api.KFile, Links: 1, Holds: 1, Text: "ab", Blocks: 1},
		},
		Next: [5]int{3, 4, 1, 3, 4},
	}
	if fmt.Sprint(got) != fmt.Sprint(want) {
		t.Errorf("there is\n%v\nnot\n%v", got, want)
	}
}

// P25.1: each step stands behind those ahead of it, and a script begins anew each time.
func TestFromTheBeginning(t *testing.T) {
	rows := []row{
		{1, says(mkdir, "d"), "done"},
		{1, says(mkdir, "d"), "done error 17"},
		{1, says(rmdir, "d"), "done"},
		{1, says(rmdir, "d"), "done error 2"},
		{1, asks(fork), "done 2"},
		{2, asks(getpid), "done 2"},
		{3, asks(getpid), "idle"},
		{1, asks(65), "done error 78"},
	}
	for range 3 {
		runs(t, few, rows)
		runs(t, few, []row{{2, anything, "idle"}, {1, says(rmdir, "d"), "done error 2"}})
	}
}

// limitsOf answers each of the limits.
func limitsOf(l *api.Limits) []*int {
	return []*int{&l.Procs, &l.Fds, &l.Files, &l.Inodes, &l.Blocks, &l.Pipe, &l.Sock}
}

// P25.1, P25.2: with each limit from its least to its greatest there can be a world; with one beyond there is none, and nothing comes of any script.
func TestLimits(t *testing.T) {
	s := []api.Step{{Pid: 1, Req: asks(getpid)}, {Pid: 2, Req: asks(getpid)}}
	for i, x := range [][2]int{{1, 64}, {1, 64}, {1, 256}, {1, 256}, {0, 4096}, {1, 4096}, {1, 4096}} {
		for _, base := range []api.Limits{few, most, {Procs: 1, Fds: 1, Files: 1, Inodes: 1, Pipe: 1, Sock: 1}} {
			for _, n := range []int{x[0], x[0] + 1, x[1] - 1, x[1], x[0] - 1, x[1] + 1, -1, math.MinInt, math.MaxInt} {
				l := base
				*limitsOf(&l)[i] = n
				want := "[done 1 idle]"
				if n < x[0] || n > x[1] {
					want = "[]"
				}
				o, d, ok := Run(l, s)
				if fmt.Sprint(texts(o)) != want || ok != (len(o) == 2) || len(d.Procs) > 0 != ok {
					t.Errorf("%v: %v %v %t", l, o, d, ok)
				}
				if !ok && fmt.Sprint(d) != fmt.Sprint(api.Dump{}) {
					t.Errorf("%v: there is %v", l, d)
				}
				if o, more := Feed(l, s, 9); fmt.Sprint(texts(o)) != want || more != 0 {
					t.Errorf("%v: Feed: %v %d", l, o, more)
				}
				if o, more := Feed(l, s, 0); len(o) > 0 || more != len(s) && ok || more != 0 && !ok {
					t.Errorf("%v: Feed: %v %d", l, o, more)
				}
				if o := Until(l, s, api.Idle); fmt.Sprint(texts(o)) != want {
					t.Errorf("%v: Until: %v", l, o)
				}
			}
		}
	}
}

// P25.1, P25.2: a script has MaxSteps steps at most; of a longer one nothing comes.
func TestMaxSteps(t *testing.T) {
	s := make([]api.Step, api.MaxSteps+2)
	for i := range s {
		s[i] = api.Step{Pid: 1 + i%2, Req: asks(getpid)}
	}
	for _, n := range []int{9999, 10000} {
		o, d, ok := Run(few, s[:n])
		if !ok || len(o) != n || len(d.Procs) != 1 {
			t.Fatalf("%d steps: %d, %t", n, len(o), ok)
		}
		for i, x := range o {
			if tells(x) != []string{"done 1", "idle"}[i%2] {
				t.Fatalf("step %d: %v", i, x)
			}
		}
		if o, more := Feed(few, s[:n], 9998); len(o) != 9998 || more != n-9998 {
			t.Errorf("%d steps: Feed: %d %d", n, len(o), more)
		}
		if o := Until(few, s[:n], api.Parked); len(o) != n {
			t.Errorf("%d steps: Until: %d", n, len(o))
		}
	}
	for _, n := range []int{10001, 10002} {
		for _, l := range []api.Limits{few, most, none} {
			if o, d, ok := Run(l, s[:n]); ok || len(o) > 0 || fmt.Sprint(d) != fmt.Sprint(api.Dump{}) {
				t.Errorf("%d steps: %d, %v, %t", n, len(o), d, ok)
			}
			for _, room := range []int{-1, 0, 1, 20000, math.MaxInt, math.MinInt} {
				if o, more := Feed(l, s[:n], room); len(o) > 0 || more != 0 {
					t.Errorf("%d steps: Feed: %d, %d", n, len(o), more)
				}
			}
			for mark := -1; mark < 5; mark++ {
				if o := Until(l, s[:n], mark); len(o) > 0 {
					t.Errorf("%d steps: Until: %d", n, len(o))
				}
			}
		}
	}
}

// marked is a script in which each mark comes.
func marked() []row {
	return []row{
		{1, asks(pipe), "done [0 1]"},
		{1, asks(fork), "done 2"},
		{2, asks(read, 0, 9), "parked"},
		{2, anything, "parked"},
		{3, anything, "idle"},
		{1, says(write, "ab", 1), "done 2"},
		{2, anything, "woken 2 ab"},
		{2, asks(exit, 300), "done error 22"},
		{0, anything, "idle"},
		{2, anything, "done 2"},
	}
}

// P25.2: Feed tells the first room of what comes, and how many others there are.
func TestFeed(t *testing.T) {
	s, want := steps(marked())
	for _, room := range []int{math.MinInt, -10000, -2, -1, 0, 1, 2, 3, 8, 9, 10, 11, 12, 1000, 10000, 10001, math.MaxInt} {
		n := max(0, min(room, 10))
		o, more := Feed(few, s, room)
		if more != 10-n || !slices.Equal(texts(o), want[:n]) {
			t.Errorf("%d: %v %d", room, texts(o), more)
		}
	}
	for _, room := range []int{-1, 0, 1, 10} {
		if o, more := Feed(none, s, room); len(o) > 0 || more != 0 {
			t.Errorf("%d, where there is no world: %v %d", room, o, more)
		}
	}
}

// P25.2: Until tells what comes of the steps up to the first one with that mark, with it; of all, if none has it.
func TestUntil(t *testing.T) {
	rows := marked()
	idle := row{7, anything, "idle"}
	done := row{1, anything, "done 1"}
	for i, x := range []struct {
		rows []row
		n    [4]int // up to which step, of each mark
	}{
		{rows, [4]int{5, 1, 3, 7}},
		{append([]row{idle}, rows...), [4]int{1, 2, 4, 8}},
		{rows[:4], [4]int{4, 1, 3, 4}},
		{rows[:3], [4]int{3, 1, 3, 3}},
		{append(rows[:7:7], done), [4]int{5, 1, 3, 7}},
		{[]row{done, done, done}, [4]int{3, 1, 3, 3}},
		{[]row{idle, idle, done}, [4]int{1, 3, 3, 3}},
		{[]row{idle}, [4]int{1, 1, 1, 1}},
		{nil, [4]int{}},
	} {
		s, want := steps(x.rows)
		for mark, n := range x.n {
			if o := Until(few, s, mark); !slices.Equal(texts(o), want[:n]) {
				t.Errorf("script %d: %d: %v", i, mark, texts(o))
			}
			if o := Until(none, s, mark); len(o) > 0 {
				t.Errorf("script %d, where there is no world: %d: %v", i, mark, o)
			}
		}
		for _, mark := range []int{-1, -2, 4, 5, 256, math.MinInt, math.MaxInt} {
			if o := Until(few, s, mark); !slices.Equal(texts(o), want) {
				t.Errorf("script %d: %d: %v", i, mark, texts(o))
			}
		}
	}
}
