package graph

import (
	"fmt"
	"math"
	"reflect"
	"slices"
	"testing"

	"purlieu/api"
	"purlieu/kernel"
	"purlieu/slots"
	"purlieu/world"
)

// Numbers of calls.
const (
	exit     = 1
	fork     = 2
	read     = 3
	write    = 4
	open     = 5
	shut     = 6 // close
	wait     = 7
	link     = 8
	unlink   = 9
	chdir    = 10
	mkdir    = 12
	getpid   = 14
	kill     = 16
	dup      = 17
	dup2     = 18
	pipe     = 19
	fcntl    = 20
	openat   = 33
	mkdirat  = 34
	sock     = 41 // socket
	pair     = 42 // socketpair
	bind     = 43
	listen   = 45
	connect  = 46
	accept   = 48
	shutdown = 49
	send     = 50
	recv     = 51
	pdfork   = 53
	pdkill   = 55
	enter    = 57 // cap_enter
	limit    = 59 // cap_rights_limit
	ioctls   = 61 // cap_ioctls_limit
	fcntls   = 63 // cap_fcntls_limit
)

// asks answers a request with numbers.
func asks(no int, a ...int) api.Req {
	r := api.Req{No: no}
	copy(r.A[:], a)
	return r
}

// says answers a request with a text and numbers.
func says(no int, s string, a ...int) api.Req {
	r := asks(no, a...)
	r.S = s
	return r
}

// gives answers a send of x with these descriptors.
func gives(fd int, l ...int) api.Req {
	r := says(send, "x", fd)
	r.L = l
	return r
}

// cut answers a descriptor without all rights.
func cut(file int, r api.Rights) api.Slot {
	return api.Slot{File: file, Rights: r, Ioctls: api.List{L: []int{1, 3}}, Fcntls: api.FcntlGetfl}
}

// passed answers what is passed that is like cut.
func passed(file int, r api.Rights) api.Passed {
	return api.Passed{File: file, Rights: r, Ioctls: api.List{L: []int{1, 3}}, Fcntls: api.FcntlGetfl}
}

// scene is all there was ahead of steps: 1 is not in capability mode, 2 is, 3 ended; both have the same descriptors: 0 a directory, 1 the same with less, 2 a socket at which something waits, 3 one at which nothing does, 4 a pipe with the socket's number, 5 a socket that is not there, 6 an open file that is not there, 8 one at which nothing is passed.
func scene() (d api.Dump) {
	d.Procs = []api.Proc{{Pid: 1, Lives: true}, {Pid: 2, Parent: 1, Lives: true, Cap: true}, {Pid: 3, Parent: 1}}
	for pid := 1; pid <= 2; pid++ {
		for fd, s := range []api.Slot{slots.Full(1), cut(1, api.CapRead|api.CapLookup), slots.Full(2), slots.Full(3), slots.Full(4), slots.Full(5), slots.Full(99), {}, slots.Full(6)} {
			if s.File > 0 {
				d.Held = append(d.Held, api.Held{Pid: pid, Fd: fd, Slot: s})
			}
		}
	}
	d.Files = []api.File{{ID: 1, Kind: api.KDir, Obj: 1}, {ID: 2, Kind: api.KSock, Obj: 7}, {ID: 3, Kind: api.KSock, Obj: 8}, {ID: 4, Kind: api.KPipe, Obj: 7}, {ID: 5, Kind: api.KSock, Obj: 99}, {ID: 6, Kind: api.KSock, Obj: 9}}
	d.Socks = []api.Sock{
		{ID: 7, Parts: []api.Part{{B: []byte("x"), L: []api.Passed{passed(11, api.CapRead), passed(12, api.CapWrite), passed(13, api.CapAll)}}, {B: []byte("y"), L: []api.Passed{passed(14, api.CapSeek), passed(15, api.CapSeek), passed(16, api.CapSeek), passed(17, api.CapSeek)}}}},
		{ID: 8},
		{ID: 9, Parts: []api.Part{{B: []byte("z")}}},
	}
	return d
}

// asked is one descriptor of now, and from where it is to be.
type asked struct {
	name    string
	pid     int
	req     api.Req
	res     api.Res
	held    api.Held
	kind    int
	from    api.Slot
	twisted func(d *api.Dump)
}

// tells holds what is told of each against what is written.
func tells(t *testing.T, l []asked) {
	t.Helper()
	for _, x := range l {
		d := scene()
		if x.twisted != nil {
			x.twisted(&d)
		}
		got := Grants(d, api.Dump{Held: []api.Held{x.held}}, api.Step{Pid: x.pid, Req: x.req}, api.Out{Mark: api.Done, Res: x.res})
		if want := (api.Grant{Held: x.held, Kind: x.kind, From: x.from}); len(got) != 1 || !reflect.DeepEqual(got[0], want) {
			t.Errorf("%s: %v, not %v", x.name, got, want)
		}
	}
}

// at is a descriptor of a process that is open of the open file 50, which there was not.
func at(pid, fd int) api.Held { return api.Held{Pid: pid, Fd: fd, Slot: slots.Full(50)} }

// wrong is what comes with an error.
var wrong = api.Res{Err: api.EBADF}

// number is what comes with a number.
func number(n int) api.Res { return api.Res{Val: n} }

// numbers is what comes with numbers.
func numbers(l ...int) api.Res { return api.Res{L: l} }

// P27.1: what a step asks for, or what its process waits with.
func TestAsked(t *testing.T) {
	a, b, c := says(read, "a", 1, 2, 3, 4, 5), gives(2, 0, 1), api.Req{No: -7, A: [5]int{math.MinInt, math.MaxInt}, S: "s", T: "t", L: []int{-1}}
	for i, x := range []struct {
		parks []api.Park
		s     api.Step
		want  api.Req
	}{
		{nil, api.Step{Pid: 1, Req: a}, a},
		{nil, api.Step{Pid: 1}, api.Req{}},
		{nil, api.Step{Pid: -1, Req: c}, c},
		{[]api.Park{{Pid: 1, Req: b}}, api.Step{Pid: 1, Req: a}, b},
		{[]api.Park{{Pid: 1, Req: c}}, api.Step{Pid: 1}, c},
		{[]api.Park{{Pid: 1}}, api.Step{Pid: 1, Req: a}, api.Req{}},
		{[]api.Park{{Pid: 2, Req: b}}, api.Step{Pid: 1, Req: a}, a},
		{[]api.Park{{Pid: 2, Req: b}, {Pid: 1, Req: c}}, api.Step{Pid: 1, Req: a}, c},
		{[]api.Park{{Pid: 1, Req: b}, {Pid: 1, Req: c}}, api.Step{Pid: 1, Req: a}, b},
		{[]api.Park{{Pid: 1, Req: c}, {Pid: 1, Req: b}, {Pid: 2, Req: b}}, api.Step{Pid: 1, Req: a}, c},
		{[]api.Park{{Pid: -3, Req: b}}, api.Step{Pid: -3, Req: a}, b},
		{[]api.Park{{Pid: 0, Req: b}}, api.Step{Req: a}, b},
	} {
		if got := Asked(api.Dump{Parks: x.parks}, x.s); !reflect.DeepEqual(got, x.want) {
			t.Errorf("%d: %v, not %v", i, got, x.want)
		}
	}
}

// P27.1: rights, commands of ioctl and of fcntl, each within, equal, beside and beyond.
func TestWithin(t *testing.T) {
	long := make([]int, 33)
	for i := range long {
		long[i] = i
	}
	lists := []api.List{{}, {All: true}, {L: []int{1}}, {L: []int{1, 3}}, {L: []int{3}}, {L: []int{2, 3}}, {L: []int{1, 2, 3}}, {L: []int{0, 1, 3}}, {L: long[:32]}, {L: long}, {L: []int{3, 1}}, {L: []int{1, 1}}, {L: []int{-1}}, {All: true, L: []int{1}}, {L: []int{math.MaxInt}}}
	sets := []api.Rights{0, api.CapRead, api.CapWrite, api.CapRead | api.CapWrite, api.CapPdkill, api.CapAll, api.CapAll &^ api.CapRead, api.CapAll &^ api.CapPdkill}
	masks := []int{0, api.FcntlGetfl, api.FcntlSetfl, api.FcntlGetfl | api.FcntlSetfl, api.FcntlSetown, api.FcntlAll, api.FcntlAll &^ api.FcntlGetown}
	many := [2]int{}
	for _, i := range lists {
		for _, j := range lists {
			for _, r := range sets {
				for _, q := range sets {
					for _, m := range masks {
						for _, n := range masks {
							a, b := api.Slot{File: 1, Rights: r, Ioctls: i, Fcntls: m}, api.Slot{File: 2, Rights: q, Ioctls: j, Fcntls: n}
							want := less(a, b)
							if Within(a, b) != want {
								t.Fatal(a, b, want)
							}
							if want {
								many[1]++
							} else {
								many[0]++
							}
						}
					}
				}
			}
		}
	}
	if many[0] < 10000 || many[1] < 10000 {
		t.Error(many)
	}
	full, none := slots.Full(1), api.Slot{}
	with := func(s api.Slot, turn func(s *api.Slot)) api.Slot { turn(&s); return s }
	for i, x := range []struct {
		a, b api.Slot
		want bool
	}{
		{none, none, true}, {none, full, true}, {full, none, false}, {full, full, true}, {slots.Full(-5), slots.Full(7), true},
		{cut(1, api.CapRead), cut(2, api.CapRead), true}, {cut(1, api.CapRead), full, true}, {full, cut(1, api.CapAll), false},
		{cut(1, api.CapRead), cut(1, api.CapWrite), false}, {cut(1, api.CapRead), cut(1, api.CapRead|api.CapWrite), true}, {cut(1, api.CapRead|api.CapWrite), cut(1, api.CapRead), false},
		{with(full, func(s *api.Slot) { s.Ioctls = api.List{} }), full, true}, {full, with(full, func(s *api.Slot) { s.Ioctls = api.List{} }), false},
		{full, with(full, func(s *api.Slot) { s.Ioctls = api.List{L: long[:32]} }), false},
		{with(full, func(s *api.Slot) { s.Ioctls = api.List{L: []int{2}} }), with(full, func(s *api.Slot) { s.Ioctls = api.List{L: []int{1, 3}} }), false},
		{with(full, func(s *api.Slot) { s.Ioctls = api.List{L: long} }), full, false}, {with(full, func(s *api.Slot) { s.Ioctls = api.List{All: true, L: []int{1}} }), full, false},
		{none, with(full, func(s *api.Slot) { s.Ioctls = api.List{L: []int{1, 1}} }), false},
		{full, with(full, func(s *api.Slot) { s.Fcntls = api.FcntlSetfl }), false}, {with(full, func(s *api.Slot) { s.Fcntls = api.FcntlSetfl }), full, true},
		{with(full, func(s *api.Slot) { s.Fcntls = api.FcntlGetfl }), with(full, func(s *api.Slot) { s.Fcntls = api.FcntlSetfl }), false},
		{with(full, func(s *api.Slot) { s.Fcntls = 1 }), full, false}, {with(full, func(s *api.Slot) { s.Fcntls = -1 }), full, false}, {with(full, func(s *api.Slot) { s.Fcntls = math.MinInt }), full, false},
		{full, with(full, func(s *api.Slot) { s.Fcntls = -1 }), true},
		{with(full, func(s *api.Slot) { s.Rights = 0 }), full, true}, {full, with(full, func(s *api.Slot) { s.Rights = api.CapAll &^ api.CapSeek }), false},
	} {
		if got := Within(x.a, x.b); got != x.want {
			t.Error(i, x.a, x.b, got)
		}
	}
}

// P27.2: the one that dup2 lays is from the descriptor that it lays, whichever was there.
func TestOnto(t *testing.T) {
	full, little := slots.Full(1), cut(1, api.CapRead|api.CapLookup)
	one := func(pid, fd int, s api.Slot) api.Held { return api.Held{Pid: pid, Fd: fd, Slot: s} }
	tells(t, []asked{
		{name: "onto a free one", pid: 1, req: asks(dup2, 1, 7), res: number(7), held: one(1, 7, little), kind: api.GrantCopy, from: little},
		{name: "onto another one", pid: 1, req: asks(dup2, 1, 4), res: number(4), held: one(1, 4, little), kind: api.GrantCopy, from: little},
		{name: "onto one of the same open file, with less", pid: 1, req: asks(dup2, 0, 1), res: number(1), held: one(1, 1, full), kind: api.GrantCopy, from: full},
		{name: "onto one of the same open file, with more", pid: 2, req: asks(dup2, 1, 0), held: one(2, 0, little), kind: api.GrantCopy, from: little},
		{name: "onto 0", pid: 1, req: asks(dup2, 4), held: one(1, 0, slots.Full(4)), kind: api.GrantCopy, from: slots.Full(4)},
		{name: "another one beside it", pid: 1, req: asks(dup2, 1, 7), held: one(1, 0, full), kind: api.GrantOwn, from: full},
		{name: "the one that is laid", pid: 1, req: asks(dup2, 1, 7), held: one(1, 1, little), kind: api.GrantOwn, from: little},
		{name: "the number of another process", pid: 1, req: asks(dup2, 4, 1), held: one(2, 1, little), kind: api.GrantOwn, from: little},
		{name: "another number, which is new", pid: 1, req: asks(dup2, 1, 7), held: at(1, 9)},
		{name: "another number, of which there is another open file", pid: 1, req: asks(dup2, 1, 7), held: at(1, 4)},
		{name: "onto itself", pid: 1, req: asks(dup2, 1, 1), held: one(1, 1, little), kind: api.GrantOwn, from: little},
		{name: "onto itself, of another open file", pid: 1, req: asks(dup2, 1, 1), held: at(1, 1)},
		{name: "onto itself, which there was not", pid: 1, req: asks(dup2, 7, 7), held: at(1, 7)},
		{name: "with an error", pid: 1, req: asks(dup2, 0, 1), res: wrong, held: one(1, 1, little), kind: api.GrantOwn, from: little},
		{name: "with an error, a new one", pid: 1, req: asks(dup2, 1, 7), res: wrong, held: at(1, 7)},
		{name: "of one that there was not", pid: 1, req: asks(dup2, 7, 9), held: at(1, 9)},
		{name: "of one that there was not, onto one that was", pid: 1, req: asks(dup2, 7, 0), held: one(1, 0, full)},
		{name: "of one below 0", pid: 1, req: asks(dup2, -1, 0), held: one(1, 0, full)},
		{name: "of another process alone", pid: 1, req: asks(dup2, 1, 0), held: one(1, 0, full), twisted: func(d *api.Dump) { d.Held = slices.Delete(d.Held, 1, 2) }},
		{name: "of a process that there was not", pid: 8, req: asks(dup2, 0, 1), held: at(8, 1)},
		{name: "of a process that there was not, but its descriptor", pid: 8, req: asks(dup2, 0, 1), held: at(8, 1), kind: api.GrantCopy, from: little, twisted: func(d *api.Dump) { d.Held[0] = one(8, 0, little) }},
		{name: "of two with one number", pid: 1, req: asks(dup2, 0, 7), held: at(1, 7), kind: api.GrantCopy, from: little, twisted: func(d *api.Dump) { d.Held = slices.Insert(d.Held, 0, one(1, 0, little)) }},
		{name: "dup does not lay", pid: 1, req: asks(dup, 0, 1), held: one(1, 1, little), kind: api.GrantOwn, from: little},
		{name: "by one that waits with something else", pid: 1, req: asks(dup2, 0, 1), held: one(1, 1, little), kind: api.GrantOwn, from: little, twisted: func(d *api.Dump) { d.Parks = []api.Park{{Pid: 1, Req: asks(read, 4, 9)}} }},
		{name: "by one that waits with it", pid: 1, req: asks(read, 4, 9), held: one(1, 1, full), kind: api.GrantCopy, from: full, twisted: func(d *api.Dump) { d.Parks = []api.Park{{Pid: 1, Req: asks(dup2, 0, 1)}} }},
		{name: "by another one that waits with it", pid: 2, req: asks(getpid), held: one(1, 1, little), kind: api.GrantOwn, from: little, twisted: func(d *api.Dump) { d.Parks = []api.Park{{Pid: 1, Req: asks(dup2, 0, 1)}} }},
	})
}

// P27.2: what was there, of the same open file, is itself.
func TestOwn(t *testing.T) {
	full, little := slots.Full(1), cut(1, api.CapRead|api.CapLookup)
	for _, req := range []api.Req{{}, asks(getpid), asks(dup, 1), asks(fcntl, 1), asks(pipe), asks(recv, 2, 9, 4), asks(openat, 1), asks(openat, api.AtCwd), says(open, "a"), asks(sock), asks(pair), asks(accept, 2), asks(fork), asks(pdfork), asks(limit, 0), {No: -1}, {No: math.MaxInt}} {
		for _, res := range []api.Res{{}, wrong, number(0), numbers(0, 1)} {
			for pid := -1; pid <= 3; pid++ {
				tells(t, []asked{
					{name: "itself", pid: pid, req: req, res: res, held: api.Held{Pid: 1, Fd: 0, Slot: full}, kind: api.GrantOwn, from: full},
					{name: "itself, with less", pid: pid, req: req, res: res, held: api.Held{Pid: 1, Fd: 0, Slot: little}, kind: api.GrantOwn, from: full},
					{name: "itself, with more", pid: pid, req: req, res: res, held: api.Held{Pid: 2, Fd: 1, Slot: full}, kind: api.GrantOwn, from: little},
				})
			}
		}
	}
	double := func(a, b api.Slot) func(d *api.Dump) {
		return func(d *api.Dump) { d.Held = []api.Held{{Pid: 1, Fd: 0, Slot: a}, {Pid: 1, Fd: 0, Slot: b}} }
	}
	tells(t, []asked{
		{name: "the first of two", pid: 1, held: api.Held{Pid: 1, Fd: 0, Slot: full}, kind: api.GrantOwn, from: little, twisted: double(little, full)},
		{name: "the first of two, of another open file", pid: 1, held: api.Held{Pid: 1, Fd: 0, Slot: full}, twisted: double(slots.Full(9), full)},
		{name: "of a process that there was not", pid: 1, held: api.Held{Pid: 8, Fd: 0, Slot: full}, kind: api.GrantOwn, from: little, twisted: func(d *api.Dump) { d.Held[0] = api.Held{Pid: 8, Fd: 0, Slot: little} }},
		{name: "of a process that has ended", pid: 1, held: api.Held{Pid: 3, Fd: 0, Slot: full}, kind: api.GrantOwn, from: little, twisted: func(d *api.Dump) { d.Held[0] = api.Held{Pid: 3, Fd: 0, Slot: little} }},
		{name: "numbers below 0", pid: -1, held: api.Held{Pid: -1, Fd: -2, Slot: api.Slot{File: -3}}, kind: api.GrantOwn, from: api.Slot{File: -3, Rights: 5}, twisted: func(d *api.Dump) { d.Held[0] = api.Held{Pid: -1, Fd: -2, Slot: api.Slot{File: -3, Rights: 5}} }},
		{name: "of another number", pid: 2, held: api.Held{Pid: 1, Fd: 7, Slot: full}},
		{name: "of another process", pid: 1, held: api.Held{Pid: 3, Fd: 0, Slot: full}},
	})
}

// P27.2: of a process that there was not, a descriptor is from the caller's of that number.
func TestChild(t *testing.T) {
	full, little := slots.Full(1), cut(1, api.CapRead|api.CapLookup)
	for _, req := range []api.Req{asks(fork), asks(pdfork), asks(getpid), asks(dup, 1), asks(dup2, 0, 1), asks(recv, 2), {No: -1}} {
		for _, res := range []api.Res{{}, wrong, number(8)} {
			tells(t, []asked{
				{name: "as its parent", pid: 1, req: req, res: res, held: api.Held{Pid: 8, Fd: 1, Slot: little}, kind: api.GrantChild, from: little},
				{name: "of another open file", pid: 2, req: req, res: res, held: at(8, 0), kind: api.GrantChild, from: full},
				{name: "which the parent has not", pid: 1, req: req, res: res, held: at(8, 7)},
				{name: "which another one has", pid: 3, req: req, res: res, held: api.Held{Pid: 8, Fd: 0, Slot: full}},
				{name: "by one that is none", pid: 77, req: req, res: res, held: api.Held{Pid: 8, Fd: 0, Slot: full}},
			})
		}
	}
	tells(t, []asked{
		{name: "of one that ended", pid: 1, req: asks(fork), held: at(3, 0)},
		{name: "of one that was there", pid: 1, req: asks(fork), held: at(2, 0)},
		{name: "the first of two", pid: 1, req: asks(fork), held: at(8, 0), kind: api.GrantChild, from: little, twisted: func(d *api.Dump) { d.Held = slices.Insert(d.Held, 0, api.Held{Pid: 1, Fd: 0, Slot: little}) }},
		{name: "the caller itself, which there was not", pid: 1, req: asks(dup, 1), held: at(1, 0), kind: api.GrantChild, from: full, twisted: func(d *api.Dump) { d.Procs = nil }},
		{name: "the caller itself, which there was not, of a new number", pid: 1, req: asks(pipe), held: at(1, 7), twisted: func(d *api.Dump) { d.Procs = nil }},
		{name: "by one that waits", pid: 1, req: asks(fork), held: api.Held{Pid: 8, Fd: 1, Slot: little}, kind: api.GrantChild, from: little, twisted: func(d *api.Dump) { d.Parks = []api.Park{{Pid: 1, Req: asks(read)}} }},
	})
}

// P27.2: of dup, and of fcntl with 0, a new one is from the descriptor that is asked of.
func TestCopy(t *testing.T) {
	full, little := slots.Full(1), cut(1, api.CapRead|api.CapLookup)
	var l []asked
	for _, req := range []api.Req{asks(dup, 1), asks(dup, 1, 9, 9), asks(fcntl, 1), asks(fcntl, 1, 0, 7), {No: dup, A: [5]int{1}, S: "s", T: "t", L: []int{1}}} {
		for _, fd := range []int{7, 9, 63, -1} {
			l = append(l,
				asked{name: "a copy", pid: 1, req: req, res: number(7), held: at(1, fd), kind: api.GrantCopy, from: little},
				asked{name: "a copy in capability mode", pid: 2, req: req, res: number(7), held: api.Held{Pid: 2, Fd: fd, Slot: little}, kind: api.GrantCopy, from: little},
				asked{name: "another one's", pid: 1, req: req, res: number(7), held: at(2, fd)},
				asked{name: "with an error", pid: 1, req: req, res: wrong, held: at(1, fd)},
				asked{name: "by one that ended", pid: 3, req: req, held: at(3, fd)})
		}
		l = append(l, asked{name: "a number of which there was another open file", pid: 1, req: req, held: at(1, 4), kind: api.GrantCopy, from: little})
	}
	for _, cmd := range []int{1, 2, 3, 4, 5, 6, -1, math.MinInt, math.MaxInt} {
		l = append(l, asked{name: fmt.Sprint("fcntl with ", cmd), pid: 1, req: asks(fcntl, 1, cmd), held: at(1, 7)})
	}
	for _, fd := range []int{7, -1, 64, api.AtCwd, math.MinInt, math.MaxInt} {
		l = append(l, asked{name: "of none", pid: 1, req: asks(dup, fd), held: at(1, 9)}, asked{name: "of none", pid: 2, req: asks(fcntl, fd), held: at(2, 9)})
	}
	waits := func(d *api.Dump) { d.Parks = []api.Park{{Pid: 1, Req: asks(dup, 1)}, {Pid: 1, Req: asks(dup)}} }
	l = append(l,
		asked{name: "the first of two", pid: 1, req: asks(dup, 0), held: at(1, 7), kind: api.GrantCopy, from: little, twisted: func(d *api.Dump) { d.Held = slices.Insert(d.Held, 0, api.Held{Pid: 1, Fd: 0, Slot: little}) }},
		asked{name: "what it waits with", pid: 1, req: asks(pipe), held: at(1, 7), kind: api.GrantCopy, from: little, twisted: waits},
		asked{name: "what another one waits with", pid: 2, req: asks(dup), held: at(2, 7), kind: api.GrantCopy, from: full, twisted: waits})
	tells(t, l)
}

// P27.2: of recv each new one is from what was passed in its place.
func TestPassed(t *testing.T) {
	like := func(file int, r api.Rights) api.Slot { return cut(file, r) }
	var l []asked
	for pid := 1; pid <= 2; pid++ {
		for _, req := range []api.Req{asks(recv, 2, 9, 4), asks(recv, 2), asks(recv, 2, -1, -1, 5, 5)} {
			l = append(l,
				asked{name: "the first", pid: pid, req: req, res: numbers(7, 9, 10), held: at(pid, 7), kind: api.GrantPassed, from: like(11, api.CapRead)},
				asked{name: "the second", pid: pid, req: req, res: numbers(7, 9, 10), held: at(pid, 9), kind: api.GrantPassed, from: like(12, api.CapWrite)},
				asked{name: "the third", pid: pid, req: req, res: numbers(7, 9, 10), held: at(pid, 10), kind: api.GrantPassed, from: like(13, api.CapAll)},
				asked{name: "the first of two alone", pid: pid, req: req, res: numbers(9, 7), held: at(pid, 9), kind: api.GrantPassed, from: like(11, api.CapRead)},
				asked{name: "fewer than were passed", pid: pid, req: req, res: numbers(9), held: at(pid, 9), kind: api.GrantPassed, from: like(11, api.CapRead)},
				asked{name: "more than were passed", pid: pid, req: req, res: numbers(7, 9, 10, 11), held: at(pid, 11)},
				asked{name: "none of those told", pid: pid, req: req, res: numbers(7, 9, 10), held: at(pid, 11)},
				asked{name: "none told", pid: pid, req: req, held: at(pid, 9)},
				asked{name: "a number twice", pid: pid, req: req, res: numbers(7, 9, 9), held: at(pid, 9), kind: api.GrantPassed, from: like(12, api.CapWrite)},
				asked{name: "a number of which there was another open file", pid: pid, req: req, res: numbers(4), held: at(pid, 4), kind: api.GrantPassed, from: like(11, api.CapRead)},
				asked{name: "another one's", pid: pid, req: req, res: numbers(7), held: at(3-pid, 7)},
				asked{name: "with an error", pid: pid, req: req, res: api.Res{Err: api.EMFILE, L: []int{7}}, held: at(pid, 7)},
				asked{name: "what the value says plays no part", pid: pid, req: req, res: number(7), held: at(pid, 7)})
		}
		for _, fd := range []int{0, 1, 3, 4, 5, 6, 7, 8, 63, -1, api.AtCwd, math.MinInt, math.MaxInt} {
			l = append(l, asked{name: fmt.Sprint("of ", fd), pid: pid, req: asks(recv, fd, 9, 4), res: numbers(9), held: at(pid, 9)})
		}
	}
	first := func(d *api.Dump) {
		d.Held = slices.Insert(d.Held, 0, api.Held{Pid: 1, Fd: 0, Slot: cut(2, 0)})
		d.Files = slices.Insert(d.Files, 2, api.File{ID: 2, Kind: api.KSock, Obj: 8})
		d.Socks = slices.Insert(d.Socks, 1, api.Sock{ID: 7})
	}
	parted := func(d *api.Dump) { d.Socks[0].Parts[0].L = nil }
	l = append(l,
		asked{name: "the first of several", pid: 1, req: asks(recv, 0, 1, 1), res: numbers(9), held: at(1, 9), kind: api.GrantPassed, from: like(11, api.CapRead), twisted: first},
		asked{name: "the first open file of a number is another one", pid: 1, req: asks(recv, 2, 1, 1), res: numbers(9), held: at(1, 9), twisted: func(d *api.Dump) {
			d.Files = slices.Insert(d.Files, 0, api.File{ID: 2, Kind: api.KPipe, Obj: 7})
		}},
		asked{name: "the first socket of a number has no part", pid: 1, req: asks(recv, 2, 1, 1), res: numbers(9), held: at(1, 9), twisted: func(d *api.Dump) {
			d.Socks = slices.Insert(d.Socks, 0, api.Sock{ID: 7})
		}},
		asked{name: "passed with the second part alone", pid: 1, req: asks(recv, 2, 1, 1), res: numbers(9), held: at(1, 9), twisted: parted},
		asked{name: "by one that waits with it", pid: 1, req: asks(dup, 0), res: numbers(9), held: at(1, 9), kind: api.GrantPassed, from: like(11, api.CapRead), twisted: func(d *api.Dump) { d.Parks = []api.Park{{Pid: 1, Req: asks(recv, 2, 1, 1)}} }},
		asked{name: "read and its kind give none", pid: 1, req: asks(read, 2, 9), res: numbers(9), held: at(1, 9)},
	)
	tells(t, l)
}

// P27.2: of openat a new one is from the directory's descriptor, where that confines, and else fresh.
func TestDir(t *testing.T) {
	full, little := slots.Full(1), cut(1, api.CapRead|api.CapLookup)
	whole := func(d *api.Dump) { d.Held[1].Slot.Rights, d.Held[9].Slot.Rights = api.CapAll, api.CapAll }
	tells(t, []asked{
		{name: "of a full one", pid: 1, req: says(openat, "a", 0), held: at(1, 7), kind: api.GrantFresh},
		{name: "of a limited one", pid: 1, req: says(openat, "a", 1), held: at(1, 7), kind: api.GrantDir, from: little},
		{name: "of a full one in capability mode", pid: 2, req: says(openat, "a", 0), held: at(2, 7), kind: api.GrantDir, from: full},
		{name: "of a limited one in capability mode", pid: 2, req: says(openat, "a", 1, api.OWrite), held: at(2, 7), kind: api.GrantDir, from: little},
		{name: "of one with all rights, but not all commands", pid: 1, req: asks(openat, 1), held: at(1, 7), kind: api.GrantFresh, twisted: whole},
		{name: "of one with all rights, but not all commands, in capability mode", pid: 2, req: asks(openat, 1), held: at(2, 7), kind: api.GrantDir, from: cut(1, api.CapAll), twisted: whole},
		{name: "of AtCwd", pid: 1, req: says(openat, "a", api.AtCwd), held: at(1, 7), kind: api.GrantFresh},
		{name: "of AtCwd in capability mode", pid: 2, req: says(openat, "a", api.AtCwd), held: at(2, 7), kind: api.GrantFresh},
		{name: "of AtCwd, of which there is a descriptor", pid: 1, req: says(openat, "a", api.AtCwd), held: at(1, 7), kind: api.GrantFresh, twisted: func(d *api.Dump) { d.Held[1].Fd = api.AtCwd }},
		{name: "of what is no directory", pid: 1, req: asks(openat, 4), held: at(1, 7), kind: api.GrantFresh},
		{name: "of none", pid: 1, req: asks(openat, 7), held: at(1, 9)},
		{name: "of none below 0", pid: 1, req: asks(openat, -1), held: at(1, 9)},
		{name: "of none in capability mode", pid: 2, req: asks(openat, math.MaxInt), held: at(2, 9)},
		{name: "a number of which there was another open file", pid: 1, req: asks(openat, 1), held: at(1, 4), kind: api.GrantDir, from: little},
		{name: "another one's", pid: 1, req: asks(openat, 1), held: at(2, 7)},
		{name: "another one's, fresh", pid: 1, req: asks(openat, 0), held: at(2, 7)},
		{name: "with an error", pid: 1, req: asks(openat, 1), res: wrong, held: at(1, 7)},
		{name: "with an error, fresh", pid: 1, req: asks(openat, 0), res: wrong, held: at(1, 7)},
		{name: "the first of two", pid: 1, req: asks(openat, 0), held: at(1, 7), kind: api.GrantDir, from: little, twisted: func(d *api.Dump) { d.Held = slices.Insert(d.Held, 0, api.Held{Pid: 1, Fd: 0, Slot: little}) }},
		{name: "the first process of two is in capability mode", pid: 1, req: asks(openat, 0), held: at(1, 7), kind: api.GrantDir, from: full, twisted: func(d *api.Dump) { d.Procs = slices.Insert(d.Procs, 0, api.Proc{Pid: 1, Cap: true}) }},
		{name: "the second process of two is in capability mode", pid: 1, req: asks(openat, 0), held: at(1, 7), kind: api.GrantFresh, twisted: func(d *api.Dump) { d.Procs = append(d.Procs, api.Proc{Pid: 1, Cap: true}) }},
		{name: "by one that ended, in capability mode", pid: 3, req: asks(openat, 0), held: at(3, 7), kind: api.GrantDir, from: full, twisted: func(d *api.Dump) { d.Procs[2].Cap, d.Held[0].Pid = true, 3 }},
		{name: "mkdirat", pid: 1, req: asks(mkdirat, 0), held: at(1, 7)},
	})
}

// P27.2: of calls that make something, a new one of the caller's is fresh.
func TestFresh(t *testing.T) {
	fresh := []int{open, pipe, sock, pair, accept, pdfork}
	var l []asked
	for no := -1; no <= api.Calls+2; no++ {
		if slices.Contains([]int{dup, fcntl, recv, openat}, no) {
			continue
		}
		kind := api.GrantNone
		if slices.Contains(fresh, no) {
			kind = api.GrantFresh
		}
		for pid := 1; pid <= 2; pid++ {
			for _, a := range []int{0, 1, 2, 7, -1, api.AtCwd} {
				req := says(no, "a", a, 4, 2)
				l = append(l,
					asked{name: "a new one", pid: pid, req: req, res: number(7), held: at(pid, 7), kind: kind},
					asked{name: "of another number than what came", pid: pid, req: req, res: number(7), held: at(pid, 9), kind: kind},
					asked{name: "of what it waits with", pid: pid, req: asks(getpid), held: at(pid, 9), kind: kind, twisted: func(d *api.Dump) { d.Parks = []api.Park{{Pid: pid, Req: req}} }},
					asked{name: "another one's", pid: pid, req: req, res: number(7), held: at(3-pid, 7)},
					asked{name: "of one that ended", pid: pid, req: req, res: number(7), held: at(3, 7)},
					asked{name: "with an error", pid: pid, req: req, res: wrong, held: at(pid, 7)},
					asked{name: "with what tells that it waits", pid: pid, req: req, res: api.Res{Err: api.EWAIT}, held: at(pid, 7)})
				if no != dup2 {
					l = append(l, asked{name: "of which there was another open file", pid: pid, req: req, held: at(pid, 4), kind: kind})
				}
			}
		}
	}
	l = append(l, asked{name: "with rights of all sorts", pid: 1, req: asks(pipe), held: api.Held{Pid: 1, Fd: 7, Slot: cut(50, api.CapRead)}, kind: api.GrantFresh},
		asked{name: "that is empty", pid: 1, req: asks(pipe), held: api.Held{Pid: 1, Fd: 7}, kind: api.GrantFresh})
	tells(t, l)
}

// P27.2: of each descriptor, in the order in which they stand; dumps of nothing.
func TestAll(t *testing.T) {
	d := scene()
	full, little := slots.Full(1), cut(1, api.CapRead|api.CapLookup)
	now := api.Dump{Held: []api.Held{at(1, 9), {Pid: 8, Fd: 1, Slot: little}, {Pid: 1, Fd: 0, Slot: full}, at(1, 9), at(2, 7), {Pid: 8, Fd: 0, Slot: full}}}
	for _, x := range []struct {
		no    int
		kinds []int
	}{
		{dup, []int{api.GrantCopy, api.GrantChild, api.GrantOwn, api.GrantCopy, api.GrantNone, api.GrantChild}},
		{pipe, []int{api.GrantFresh, api.GrantChild, api.GrantOwn, api.GrantFresh, api.GrantNone, api.GrantChild}},
		{recv, []int{api.GrantNone, api.GrantChild, api.GrantOwn, api.GrantNone, api.GrantNone, api.GrantChild}},
		{65, []int{api.GrantNone, api.GrantChild, api.GrantOwn, api.GrantNone, api.GrantNone, api.GrantChild}},
	} {
		var kinds []int
		for i, g := range Grants(d, now, api.Step{Pid: 1, Req: asks(x.no, 1)}, api.Out{Mark: api.Done}) {
			kinds = append(kinds, g.Kind)
			if !reflect.DeepEqual(g.Held, now.Held[i]) {
				t.Error(x.no, i, g)
			}
		}
		if !slices.Equal(kinds, x.kinds) {
			t.Error(x.no, kinds)
		}
	}
	for _, s := range []api.Step{{}, {Pid: 1, Req: asks(dup)}, {Pid: 1, Req: asks(recv)}, {Pid: -1, Req: asks(openat)}, {Pid: 1, Req: asks(pipe)}} {
		for mark := -1; mark <= 4; mark++ {
			o := api.Out{Mark: mark, Res: numbers(0, 1)}
			if l := Grants(api.Dump{}, api.Dump{}, s, o); len(l) != 0 {
				t.Error(s, l)
			}
			if l := Grants(d, api.Dump{Procs: d.Procs, Files: d.Files}, s, o); len(l) != 0 {
				t.Error(s, l)
			}
			for i, g := range Grants(api.Dump{}, d, s, o) {
				if want := (api.Grant{Held: d.Held[i]}); !reflect.DeepEqual(g, want) {
					t.Error(s, g)
				}
			}
		}
	}
}

// step is one of a script, and the kinds of grants behind it.
type step struct {
	pid   int
	req   api.Req
	kinds []int
}

// P27.2, P27.3: example 1, and a script in which each kind comes.
func TestSteps(t *testing.T) {
	const own, child, copied, dir, given, fresh = api.GrantOwn, api.GrantChild, api.GrantCopy, api.GrantDir, api.GrantPassed, api.GrantFresh
	w := world.New(api.Limits{Procs: 5, Fds: 9, Files: 20, Inodes: 9, Blocks: 9, Pipe: 9, Sock: 9})
	for i, x := range []step{
		{1, says(mkdir, "d"), nil},
		{1, says(open, "d"), []int{fresh}},
		{1, asks(dup, 0), []int{own, copied}},
		{1, limited(1, api.CapRead|api.CapLookup|api.CapCreate|api.CapWrite), []int{own, own}},
		{1, says(openat, "f", 1, api.OCreat|api.OBoth), []int{own, own, dir}},
		{1, says(openat, "f", 0), []int{own, own, own, fresh}},
		{1, asks(dup2, 1, 0), []int{copied, own, own, own}},
		{1, asks(shut, 3), []int{own, own, own}},
		{1, asks(shut, 2), []int{own, own}},
		{1, asks(pair), []int{own, own, fresh, fresh}},
		{1, gives(2, 1, 3), []int{own, own, own, own}},
		{1, asks(pdfork), []int{own, own, own, own, fresh, child, child, child, child}},
		{2, asks(enter), []int{own, own, own, own, own, own, own, own, own}},
		{2, asks(recv, 3, 9, 4), []int{own, own, own, own, own, own, own, own, own, given, given}},
		{2, asks(recv, 3, 9, 4), []int{own, own, own, own, own, own, own, own, own, own, own}}, // waits
		{1, gives(2, 4), []int{own, own, own, own, own, own, own, own, own, own, own}},
		{2, asks(pipe), []int{own, own, own, own, own, own, own, own, own, own, own, given}}, // the one that was passed, since it waited
		{2, says(openat, "f", 0), []int{own, own, own, own, own, own, own, own, own, own, own, own, dir}},
		{2, asks(fcntl, 0, 0, 8), []int{own, own, own, own, own, own, own, own, own, own, own, own, own, copied}},
		{2, asks(dup, 0), []int{own, own, own, own, own, own, own, own, own, own, own, own, own, own}}, // EMFILE
		{9, asks(dup, 0), []int{own, own, own, own, own, own, own, own, own, own, own, own, own, own}}, // there is none
		{2, asks(exit), []int{own, own, own, own, own}},
	} {
		was, s := w.Dump(), api.Step{Pid: x.pid, Req: x.req}
		o := kernel.Step(w, s)
		var kinds []int
		for _, g := range Grants(was, w.Dump(), s, o) {
			kinds = append(kinds, g.Kind)
			if g.Kind != fresh && (!Within(g.Held.Slot, g.From) || g.From.File != g.Held.Slot.File && g.Kind != dir) {
				t.Error(i, g)
			}
		}
		if !slices.Equal(kinds, x.kinds) {
			t.Error(i, kinds, o)
		}
	}
}

// limited answers a cap_rights_limit.
func limited(fd int, r api.Rights) api.Req {
	q := asks(limit, fd)
	q.L = []int{1<<57 + int(r%(1<<20)), 1<<58 + int(r>>20)}
	return q
}
