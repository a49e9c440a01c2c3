package kernel

import (
	"fmt"
	"math"
	"slices"
	"strings"
	"testing"

	"purlieu/api"
	"purlieu/world"
)

// Calls, by their numbers.
const (
	exit       = 1
	fork       = 2
	read       = 3
	write      = 4
	open       = 5
	shut       = 6 // close
	wait       = 7
	mkdir      = 12
	getpid     = 14
	getppid    = 15
	kill       = 16
	dup        = 17
	pipe       = 19
	fcntl      = 20
	ioctl      = 21
	readlink   = 23
	stat       = 28
	openat     = 33
	readlinkat = 39
	sock       = 41 // socket
	pair       = 42 // socketpair
	bind       = 43
	listen     = 45
	connect    = 46
	connectat  = 47
	accept     = 48
	shutdown   = 49
	send       = 50
	recv       = 51
	poll       = 52
	pdfork     = 53
	pdkill     = 55
	pdwait     = 56
	enter      = 57 // cap_enter
	getmode    = 58
	limit      = 59 // cap_rights_limit
	rightsGet  = 60
	fcntlsGet  = 64
)

// The processes of the rows of steps below, mostly.
const (
	first  = 1
	second = 2
	third  = 3
)

// few is how much there may be, if nothing else is said.
var few = api.Limits{Procs: 4, Fds: 9, Files: 12, Inodes: 10, Blocks: 8, Pipe: 4, Sock: 4}

// noCalls are numbers of no call.
var noCalls = []int{0, 65, 66, -1, -3, 1000, math.MaxInt, math.MinInt}

// asks answers a request with numbers.
func asks(no int, a ...int) api.Req {
	r := api.Req{No: no}
	copy(r.A[:], a)
	return r
}

// says answers a request with a text.
func says(no int, s string, a ...int) api.Req {
	r := asks(no, a...)
	r.S = s
	return r
}

// lists answers a request with a list.
func lists(no int, l []int, a ...int) api.Req {
	r := asks(no, a...)
	r.L = l
	return r
}

// gives answers a request to send a byte with descriptors.
func gives(fd int, l ...int) api.Req {
	r := says(send, "x", fd)
	r.L = l
	return r
}

// anything is what is asked for where it is to play no part.
var anything = asks(getpid)

// shows answers what comes of a call as a text: its error, number, text and list, as far as they are not zero.
func shows(x api.Res) string {
	var l []string
	if x.Err != api.OK {
		l = append(l, fmt.Sprintf("error %d", int(x.Err)))
	}
	if x.Val != 0 {
		l = append(l, fmt.Sprint(x.Val))
	}
	if x.S != "" {
		l = append(l, x.S)
	}
	if len(x.L) > 0 {
		l = append(l, fmt.Sprint(x.L))
	}
	return strings.Join(l, " ")
}

// tells answers what comes of a step as a text.
func tells(x api.Out) string {
	marks := map[int]string{0: "idle", 1: "done", 2: "parked", 3: "woken"}
	return strings.TrimSpace(marks[x.Mark] + " " + shows(x.Res))
}

// equal tells whether two requests are the same.
func equal(a, b api.Req) bool {
	return a.No == b.No && a.A == b.A && a.S == b.S && a.T == b.T && slices.Equal(a.L, b.L)
}

// beside tells whether all there is is the same in two dumps, but for which processes wait with what.
func beside(a, b api.Dump) bool {
	lists := func(a, b api.List) bool { return a.All == b.All && slices.Equal(a.L, b.L) }
	held := func(a, b api.Held) bool {
		x, y := a.Slot, b.Slot
		return a.Pid == b.Pid && a.Fd == b.Fd && x.File == y.File && x.Rights == y.Rights && x.Fcntls == y.Fcntls && lists(x.Ioctls, y.Ioctls)
	}
	inode := func(a, b api.Inode) bool {
		return a.Ino == b.Ino && a.Kind == b.Kind && a.Links == b.Links && a.Holds == b.Holds && a.Parent == b.Parent && a.Text == b.Text && a.Blocks == b.Blocks && slices.Equal(a.Names, b.Names) && slices.Equal(a.Inos, b.Inos)
	}
	passed := func(a, b api.Passed) bool {
		return a.File == b.File && a.Rights == b.Rights && a.Fcntls == b.Fcntls && lists(a.Ioctls, b.Ioctls)
	}
	part := func(a, b api.Part) bool { return slices.Equal(a.B, b.B) && slices.EqualFunc(a.L, b.L, passed) }
	socks := func(a, b api.Sock) bool {
		return a.ID == b.ID && a.State == b.State && a.Peer == b.Peer && a.Bound == b.Bound && a.Most == b.Most && a.ShutR == b.ShutR && a.ShutW == b.ShutW && slices.Equal(a.Waits, b.Waits) && slices.EqualFunc(a.Parts, b.Parts, part)
	}
	return a.Next == b.Next && slices.Equal(a.Procs, b.Procs) && slices.Equal(a.Files, b.Files) && slices.Equal(a.Pipes, b.Pipes) &&
		slices.EqualFunc(a.Held, b.Held, held) && slices.EqualFunc(a.Inodes, b.Inodes, inode) && slices.EqualFunc(a.Socks, b.Socks, socks)
}

// alike tells whether all there is is the same in two dumps.
func alike(a, b api.Dump) bool {
	return beside(a, b) && slices.EqualFunc(a.Parks, b.Parks, func(x, y api.Park) bool { return x.Pid == y.Pid && equal(x.Req, y.Req) })
}

// with answers the call that a process waits with, if it does, by all there is.
func with(d api.Dump, pid int) (api.Req, bool) {
	for _, p := range d.Parks {
		if p.Pid == pid {
			return p.Req, true
		}
	}
	return api.Req{}, false
}

// lives tells whether a process lives, by all there is.
func lives(d api.Dump, pid int) bool {
	return slices.ContainsFunc(d.Procs, func(p api.Proc) bool { return p.Pid == pid && p.Lives })
}

// kept says what is wrong between what was there ahead of a step and what is there behind it, as the chapter tells of each step: nothing, if all is well.
func kept(was, now api.Dump, s api.Step, x api.Out) string {
	before, waits := with(was, s.Pid)
	after, still := with(now, s.Pid)
	failed := x.Mark == api.Idle || x.Mark == api.Parked || x.Res.Err != api.OK
	switch {
	case (x.Mark == api.Idle) == lives(was, s.Pid):
		return "idle, or not"
	case (x.Mark == api.Idle || x.Mark == api.Parked) && shows(x.Res) != "":
		return "something is told"
	case (x.Mark == api.Woken) != (waits && !still):
		return "woken, or not"
	case (x.Mark == api.Parked) != still:
		return "parked, or not"
	case still && waits && !equal(before, after):
		return "it waits with something else"
	case still && !waits && !equal(after, s.Req):
		return "it waits with something that it did not ask for"
	case failed && !beside(was, now):
		return "a change"
	case x.Res.Err == api.EWAIT:
		return "an answer of one that waits"
	}
	for _, p := range was.Parks {
		if r, waits := with(now, p.Pid); p.Pid != s.Pid && lives(now, p.Pid) && !(waits && equal(r, p.Req)) {
			return fmt.Sprint(p.Pid, " does not wait as it did")
		}
	}
	if more := len(now.Parks) - len(was.Parks); more > 1 || more == 1 && (waits || !still) {
		return "others wait"
	}
	return ""
}

// row is a step, and what is to come of it.
type row struct {
	pid  int
	r    api.Req
	want string
}

// play does rows of steps in a world, and holds what comes of them against what is to come.
func play(t *testing.T, w *world.World, l []row) {
	t.Helper()
	for i, x := range l {
		was := w.Dump()
		list := slices.Clone(x.r.L)
		s := api.Step{Pid: x.pid, Req: x.r}
		got := Step(w, s)
		if tells(got) != x.want {
			t.Fatalf("step %d: %d: %v: %s, not %s", i, x.pid, x.r, tells(got), x.want)
		}
		if wrong := kept(was, w.Dump(), s, got); wrong != "" {
			t.Fatalf("step %d: %d: %v: %s: %s", i, x.pid, x.r, tells(got), wrong)
		}
		if !slices.Equal(list, x.r.L) {
			t.Fatalf("step %d: the list was %v", i, list)
		}
	}
}

// begins answers a world in which these steps were done.
func begins(t *testing.T, l api.Limits, rows ...row) *world.World {
	t.Helper()
	w := world.New(l)
	play(t, w, rows)
	return w
}

// The document's example.
func TestExample(t *testing.T) {
	w := begins(t, few, row{first, asks(pipe), "done [0 1]"}, row{first, asks(fork), "done 2"})
	for _, x := range []struct {
		pid  int
		r    api.Req
		want api.Out
	}{
		{first, asks(read, 0, 9), api.Out{Mark: api.Parked}},
		{second, says(write, "ab", 1), api.Out{Mark: api.Done, Res: api.Res{Val: 2}}},
		{first, asks(getpid), api.Out{Mark: api.Woken, Res: api.Res{Val: 2, S: "ab"}}},
		{first, asks(getpid), api.Out{Mark: api.Done, Res: api.Res{Val: 1}}},
		{third, asks(getpid), api.Out{Mark: api.Idle}},
	} {
		if got := Step(w, api.Step{Pid: x.pid, Req: x.r}); fmt.Sprint(got) != fmt.Sprint(x.want) {
			t.Errorf("%d: %v: %v, not %v", x.pid, x.r, got, x.want)
		}
	}
}

// families answers the steps to a world in which the process 1 has a pipe (0, 1) and a joined pair (2, 3); 2 and 3 have them, too, and 3 is in capability mode; 4 ended, and was not waited for; 5 ended, and was; 6 does not live either, and is none.
func families() []row {
	return []row{
		{first, asks(pipe), "done [0 1]"},
		{first, asks(pair), "done 2 [2 3]"},
		{first, asks(fork), "done 2"},
		{first, asks(fork), "done 3"},
		{third, asks(enter), "done"},
		{first, asks(fork), "done 4"},
		{first, asks(fork), "done 5"},
		{5, asks(exit, 1), "done"},
		{first, asks(wait, 5), "done 5 [1]"},
		{4, asks(exit, 1), "done"},
	}
}

// many is how much there may be where families are.
var many = api.Limits{Procs: 6, Fds: 9, Files: 12, Inodes: 10, Blocks: 8, Pipe: 4, Sock: 4}

// notLiving are the numbers of those that don't live there.
var notLiving = []int{4, 5, 6, 7, 0, -1, -2, 65, math.MaxInt, math.MinInt}

// P24.1: a call of each group, by several processes.
func TestDo(t *testing.T) {
	w := begins(t, many, families()...)
	for i, x := range []row{
		{first, says(mkdir, "d"), ""},
		{first, says(open, "d", 0), "4"},
		{second, says(stat, "d", 0), "[2 0 1 0]"},
		{third, says(stat, "d", 0), "error 94"},
		{third, says(openat, "d", api.AtCwd), "error 94"},
		{second, says(write, "ab", 1), "2"},
		{third, asks(read, 0, 9), "2 ab"},
		{third, asks(read, 0, 9), "error 1000"},
		{first, asks(shut, 4), ""},
		{first, asks(shut, 4), "error 9"},
		{second, says(send, "c", 2), "1"},
		{third, asks(recv, 3, 9), "1 c"},
		{third, asks(recv, 3, 9), "error 1000"},
		{second, asks(getppid), "1"},
		{first, asks(wait, -1, 0), "4 [1]"},
		{first, asks(wait, -1, 0), "error 1000"},
		{first, asks(fork), "6"},
		{third, asks(getmode), "1"},
		{second, asks(getmode), ""},
		{second, asks(fcntlsGet, 0), "120"},
		{second, lists(poll, []int{0, 3, 1, 3}), "1 [0 2]"},
		{second, lists(poll, []int{0, 3}), "error 1000"},
		{6, asks(exit, 3), ""},
		{6, asks(getpid), "error 3"},
	} {
		if got := Do(w, x.pid, x.r); shows(got) != x.want {
			t.Fatalf("call %d: %d: %v: %s, not %s", i, x.pid, x.r, shows(got), x.want)
		}
	}
	if d := w.Dump(); len(d.Parks) > 0 {
		t.Errorf("some wait: %v", d.Parks)
	}
}

// P24.1: one that does not live is told so, whatever it asks for; of no call all others are told that there is none.
func TestDoOfNone(t *testing.T) {
	w := begins(t, many, families()...)
	was := fmt.Sprint(w.Dump())
	for _, no := range append([]int{getpid, fork, exit, read, poll, enter, open}, noCalls...) {
		for _, r := range []api.Req{asks(no), asks(no, 0, 9), says(no, "x"), lists(no, []int{0, 1}), asks(no, -1, math.MaxInt, 3, 4, 5)} {
			for _, pid := range notLiving {
				if got := Do(w, pid, r); shows(got) != "error 3" {
					t.Errorf("%d: %v: %s", pid, r, shows(got))
				}
			}
			for _, pid := range []int{first, second, third} {
				if slices.Contains(noCalls, no) && shows(Do(w, pid, r)) != "error 78" {
					t.Errorf("%d: %v: %s", pid, r, shows(Do(w, pid, r)))
				}
			}
		}
	}
	if fmt.Sprint(w.Dump()) != was {
		t.Error("a change")
	}
}

// P24.1: whether a process waits plays no part in Do, which neither parks nor wakes.
func TestDoParksNobody(t *testing.T) {
	w := begins(t, many, append(families(), row{second, asks(read, 0, 9), "parked"})...)
	was := fmt.Sprint(w.Dump().Parks)
	for _, x := range []row{
		{second, asks(getpid), "2"},
		{second, asks(recv, 2, 9), "error 1000"},
		{third, asks(read, 0, 9), "error 1000"},
		{second, says(write, "ab", 1), "2"},
		{second, asks(read, 0, 1), "1 a"},
		{second, asks(65), "error 78"},
		{second, asks(read, 0, 1000), "error 22"},
	} {
		if got := Do(w, x.pid, x.r); shows(got) != x.want {
			t.Errorf("%d: %v: %s, not %s", x.pid, x.r, shows(got), x.want)
		}
		if now := fmt.Sprint(w.Dump().Parks); now != was {
			t.Errorf("%d: %v: %s wait, not %s", x.pid, x.r, now, was)
		}
	}
	play(t, w, []row{{second, anything, "woken 1 b"}})
}

// P24.2, P24.3: a step of one that does not live is idle, whatever it asks for, and does nothing.
func TestIdle(t *testing.T) {
	w := begins(t, many, append(families(), row{second, asks(read, 0, 9), "parked"})...)
	was := fmt.Sprint(w.Dump())
	for _, pid := range notLiving {
		for no := -1; no <= 66; no++ {
			for _, r := range []api.Req{asks(no), asks(no, 0, 1), says(no, "x"), says(no, "x", 1), says(no, "d", 0, 1), lists(no, []int{0, 1})} {
				if got := Step(w, api.Step{Pid: pid, Req: r}); tells(got) != "idle" {
					t.Errorf("%d: %v: %s", pid, r, tells(got))
				}
			}
		}
	}
	if fmt.Sprint(w.Dump()) != was {
		t.Error("a change")
	}
}

// wrong are requests that can't be, and what they tell.
func wrong() map[string][]api.Req {
	no := []api.Req{}
	for _, n := range noCalls {
		no = append(no, asks(n), asks(n, 1), says(n, "x"), lists(n, []int{1}))
	}
	return map[string][]api.Req{
		"error 78": no,
		"error 22": {
			says(fork, "x"), asks(fork, 1), lists(fork, []int{1}), {No: fork, T: "x"},
			asks(read, 0, -1), asks(read, 0, 257), asks(read, 0, 1, 1), says(read, "x", 0, 1),
			says(write, strings.Repeat("x", 257), 1), asks(write, 1, 1), lists(write, []int{1}, 1),
			asks(exit, -1), asks(exit, 256), asks(wait, -1, 2), asks(kill, 1, 32), asks(kill, 1, -1),
			asks(pipe, 1), asks(pipe, 8), asks(sock, 2), asks(recv, 2, 1, 5), asks(shutdown, 2, 3), asks(accept, 0, 1),
			lists(send, []int{0, 0, 0, 0, 0}, 2), lists(poll, []int{0}), lists(poll, []int{0, 4}), lists(poll, []int{0, 0}), lists(poll, []int{0, 1}, 2),
			says(open, "d", 1<<30), says(open, "d", 3), says(open, strings.Repeat("d", 4097)), says(openat, "d", 0, 3),
			lists(limit, []int{1}, 0), asks(enter, 1), asks(getmode, 0, 0, 0, 0, 1), lists(rightsGet, []int{1}, 0),
		},
	}
}

// P24.3: what can't be tells ENOSYS or EINVAL by one that lives, in capability mode or not; one that waits does not ask for it, and one that does not live is idle.
func TestTotal(t *testing.T) {
	w := begins(t, many, append(families(), row{second, asks(read, 0, 9), "parked"})...)
	for e, l := range wrong() {
		for _, r := range l {
			play(t, w, []row{{first, r, "done " + e}, {third, r, "done " + e}, {second, r, "parked"}, {4, r, "idle"}, {0, r, "idle"}, {6, r, "idle"}})
		}
	}
	play(t, w, []row{{third, says(write, "a", 1), "done 1"}, {second, wrong()["error 22"][0], "woken 1 a"}})
}
