package kernel

import (
	"fmt"
	"math"
	"strings"
	"testing"

	"purlieu/api"
	"purlieu/calls"
	"purlieu/capcalls"
	"purlieu/dircalls"
	"purlieu/fscalls"
	"purlieu/ipccalls"
	"purlieu/polls"
	"purlieu/proccalls"
	"purlieu/slots"
	"purlieu/world"
)

// plain is a kernel as the chapter's words have it: a world of its own, in which nobody is ever parked, and beside it who waits with what.
type plain struct {
	*world.World
	waits map[int]api.Req
}

// do does a call: each number's package, as chapter 15 lists them.
func (p plain) do(pid int, r api.Req) api.Res {
	x, there := p.Procs().Get(pid)
	if !there || !x.Lives {
		return api.Res{Err: api.ESRCH}
	}
	switch n := r.No; {
	case n < 1 || n > 64:
		return api.Res{Err: api.ENOSYS}
	case n == 52:
		return polls.Call(p.World, pid, r)
	case n >= 57:
		return capcalls.Call(p.World, pid, r)
	case n == 1 || n == 2 || n == 7 || n >= 14 && n <= 16 || n >= 53:
		return proccalls.Call(p.World, pid, r)
	case n == 19 || n >= 41:
		return ipccalls.Call(p.World, pid, r)
	case n == 5 || n >= 8 && n <= 13 || n >= 22 && n <= 24 || n == 28 || n >= 33:
		return dircalls.Call(p.World, pid, r)
	}
	return fscalls.Call(p.World, pid, r)
}

// step does a step.
func (p plain) step(s api.Step) api.Out {
	if x, there := p.Procs().Get(s.Pid); !there || !x.Lives {
		return api.Out{}
	}
	r, waited := p.waits[s.Pid]
	if !waited {
		r = s.Req
		r.L = append([]int(nil), r.L...)
	}
	x := p.do(s.Pid, r)
	if x.Err == 1000 {
		p.waits[s.Pid] = r
		return api.Out{Mark: 2}
	}
	delete(p.waits, s.Pid)
	if waited {
		return api.Out{Mark: 3, Res: x}
	}
	return api.Out{Mark: 1, Res: x}
}

// all answers all there is. Those who ended wait no more.
func (p plain) all() api.Dump {
	d := p.Dump()
	for _, x := range d.Procs {
		if r, waits := p.waits[x.Pid]; waits && x.Lives {
			d.Parks = append(d.Parks, api.Park{Pid: x.Pid, Req: r})
		}
	}
	return d
}

// dice answers a roller of numbers below n, always the same row of them.
func dice(seed uint64) func(n int) int {
	return func(n int) int {
		seed = seed*6364136223846793005 + 1442695040888963407
		return int(seed >> 33 % uint64(n))
	}
}

// player makes requests such as come, in a world that changes.
type player struct {
	*world.World
	dice func(n int) int
}

// some answers one of l.
func (p *player) some(l ...int) int { return l[p.dice(len(l))] }

// fd answers a number, mostly of a descriptor that there is.
func (p *player) fd(pid int) int {
	if l := p.Slots(pid).All(); len(l) > 0 && p.dice(20) > 0 {
		return p.some(l...)
	}
	return p.dice(p.Limits().Fds+2) - 1
}

// of answers a descriptor that is open of such a thing, mostly.
func (p *player) of(pid, kind int) int {
	for range 8 {
		fd := p.fd(pid)
		if _, f, e := p.Look(pid, fd, 0); e == api.OK && f.Kind == kind {
			return fd
		}
	}
	return p.fd(pid)
}

// who answers a number of a process, mostly of one that lives.
func (p *player) who() int {
	if p.dice(40) == 0 {
		return p.dice(p.Procs().Numbers()+3) - 2
	}
	l := p.Procs().Dump()
	for range 4 {
		if x := l[p.dice(len(l))]; x.Lives {
			return x.Pid
		}
	}
	return l[p.dice(len(l))].Pid
}

// descriptor answers a descriptor of what this call is of, mostly.
func (p *player) descriptor(pid, no int) int {
	switch group := calls.Group(no); {
	case p.dice(4) == 0 || group == "capcalls":
		return p.fd(pid)
	case group == "proccalls":
		return p.of(pid, api.KProc)
	case group == "ipccalls":
		return p.of(pid, api.KSock)
	case no == read || no == write:
		return p.of(pid, p.some(api.KPipe, api.KPipe, api.KSock, api.KFile))
	}
	return p.fd(pid)
}

// letter answers a number for a small letter of a call's shape.
func (p *player) letter(c rune, pid, no int) int {
	switch c {
	case 'f':
		return p.descriptor(pid, no)
	case 'd':
		return p.some(api.AtCwd, p.of(pid, api.KDir), p.of(pid, api.KDir))
	case 'g':
		return p.some(0, api.OCreat, api.OCreat|api.OBoth, api.OCreat|api.OWrite, api.OCreat|api.OExcl, api.ODirectory, api.OBoth|api.OTrunc)
	case 'x':
		return p.some(0, 4, p.dice(6), p.who(), -1)
	case 'n':
		return p.some(1, 1, 2, p.dice(12))
	case 'o', 'i':
		return p.dice(70)
	case 'b':
		return p.dice(4)
	case 'm', 'c', 'w', 'e':
		return p.dice(3)
	case 'u':
		return p.some(0, 0, 0, 1)
	case 's':
		return p.some(0, 9)
	case 'h':
		return p.dice(3)
	case 'k':
		return p.some(0, 0, 0, api.ONonblock)
	}
	return 0
}

// like answers a request of this number, as its shape asks for it.
func (p *player) like(pid, no int) api.Req {
	r := api.Req{No: no}
	call, _ := calls.Get(no)
	at := 0
	for _, c := range call.Shape {
		if c >= 'a' {
			r.A[at] = p.letter(c, pid, no)
			at++
		}
		switch c {
		case 'S', 'Y':
			r.S = []string{"d", "f", "/", "s", "s", "d/s", "..", ".", "e", "d/f"}[p.dice(10)]
		case 'T':
			r.T = []string{"e", "d/e", "g", "d"}[p.dice(4)]
		case 'B':
			r.S = strings.Repeat("a", p.some(1, 2, p.dice(9)))
		case 'L':
			for range p.dice(3) {
				r.L = append(r.L, p.fd(pid))
			}
		case 'R':
			left := api.CapAll &^ (1 << p.dice(32))
			r.L = []int{1<<57 + int(left%(1<<20)), 1<<58 + int(left>>20)}
		case 'I':
			r.L = []int{p.dice(3), 2}
		case 'P':
			for range p.some(1, 1, 2, 3) {
				r.L = append(r.L, p.of(pid, p.some(api.KPipe, api.KSock, api.KProc)), 1+p.dice(3))
			}
		}
	}
	return r
}

// request answers a request: of any call, or mostly of those that wait and of what they wait for; seldom one that ends a process, or can't be.
func (p *player) request(pid int) api.Req {
	no := 1 + p.dice(api.Calls)
	if p.dice(4) > 0 {
		no = p.some(fork, fork, open, read, read, read, write, write, write, shut, wait, wait, pipe, sock, pair, bind, listen, connect, connectat, readlink, readlinkat, accept, accept, shutdown, send, send, send, recv, recv, poll, poll, pdfork, pdwait, pdwait)
	}
	if (no == exit || no == kill || no == pdkill) && p.dice(3) > 0 || no == enter && p.dice(8) > 0 {
		no = dup
	}
	r := p.like(pid, no)
	switch p.dice(60) {
	case 0:
		r.A[p.dice(5)] += p.some(-1, 1, 1000, math.MinInt)
	case 1:
		r.No = noCalls[p.dice(len(noCalls))]
	case 2:
		r.L = append(r.L, 1)
	case 3:
		r.S += "/x"
	}
	return r
}

// peer answers a socket's other end.
func (p *player) peer(id int) int {
	for _, s := range p.Socks().Dump() {
		if s.ID == id {
			return s.Peer
		}
	}
	return 0
}

// near answers a descriptor of a process that is of what another one waits at, or of its other end, if it has one.
func (p *player) near(pid int, f api.File) (int, bool) {
	for range 12 {
		fd := p.fd(pid)
		_, x, e := p.Look(pid, fd, 0)
		if e != api.OK || x.Kind != f.Kind {
			continue
		}
		if x.Obj == f.Obj || f.Kind == api.KSock && p.peer(x.Obj) == f.Obj {
			return fd, true
		}
	}
	return 0, false
}

// helps answers a request by which one that waits may come to what it waits for, or be told an error.
func (p *player) helps(pid int, waits api.Park) api.Req {
	_, f, e := p.Look(waits.Pid, waits.Req.A[0], 0)
	if waits.Req.No == wait || waits.Req.No == poll || e != api.OK {
		return asks(exit, p.dice(3))
	}
	fd, there := p.near(pid, f)
	switch {
	case !there && f.Kind == api.KSock:
		return p.like(pid, p.some(sock, connect, recv))
	case !there:
		return p.request(pid)
	case p.dice(6) == 0:
		return nonblocking(fd)
	case p.dice(4) == 0:
		return asks(shut, fd)
	case f.Kind == api.KPipe:
		return []api.Req{asks(read, fd, 1), asks(read, fd, 9), says(write, "a", fd), says(write, "abc", fd)}[p.dice(4)]
	case f.Kind == api.KSock:
		return []api.Req{asks(recv, fd, 9, p.dice(3)), asks(read, fd, 1), says(write, "a", fd), gives(fd, p.fd(pid), p.fd(pid)), says(send, "ab", fd), asks(shutdown, fd, p.dice(3))}[p.dice(6)]
	}
	return []api.Req{asks(pdkill, fd, 9), asks(pdwait, fd)}[p.dice(2)]
}

// limits answers how much there may be: much or little.
func limits(dice func(n int) int) api.Limits {
	return api.Limits{Procs: 2 + dice(5), Fds: 2 + dice(4+dice(11)), Files: 3 + dice(24), Inodes: 2 + dice(6), Blocks: 2, Pipe: 1 + dice(5), Sock: 1 + dice(6)}
}

// twins answers a world and a plain kernel, in which the same is there.
func twins(l api.Limits) (*world.World, plain) {
	begin := func() *world.World {
		w := world.New(l)
		w.Open(first, api.KDir, 1, 0, slots.Full(1))
		return w
	}
	return begin(), plain{begin(), map[int]api.Req{}}
}

// opening answers steps by which long rows may begin, so that there is something to wait at.
func opening() []row {
	return []row{
		{pid: first, r: says(mkdir, "d")},
		{pid: first, r: asks(sock)},
		{pid: first, r: says(bind, "s", 1)},
		{pid: first, r: asks(listen, 1, 2)},
		{pid: first, r: asks(fork)},
		{pid: first, r: asks(fork)},
		{pid: second, r: asks(pipe)},
		{pid: second, r: asks(pair)},
		{pid: second, r: asks(fork)},
		{pid: first, r: asks(pdfork)},
		{pid: first, r: asks(fork)},
	}
}

// same does a step in both, and tells what came of it, which is to be alike, as all there is then.
func same(t *testing.T, w *world.World, p plain, s api.Step) api.Out {
	t.Helper()
	was := w.Dump()
	want := p.step(s)
	got := Step(w, s)
	now := w.Dump()
	if tells(got) != tells(want) {
		t.Fatalf("%v: %v, not %v", s, got, want)
	}
	if x := p.all(); !alike(now, x) {
		t.Fatalf("%v: there is\n%v\nnot\n%v", s, now, x)
	}
	if wrong := kept(was, now, s, got); wrong != "" {
		t.Fatalf("%v: %v: %s", s, got, wrong)
	}
	return got
}

// wanted are what is to come in long rows, each often.
func wanted() []string {
	l := []string{"idle", "picked with the same", "picked with a wrong one", "picked with another", "ended while it waited", "waits in capability mode"}
	for _, no := range []int{read, write, accept, send, recv, wait, pdwait, poll} {
		l = append(l, fmt.Sprint("parked ", no), fmt.Sprint("parked once more ", no), fmt.Sprint("woken ", no))
	}
	for _, x := range [][2]int{{read, 35}, {write, 32}, {write, 35}, {accept, 23}, {accept, 35}, {send, 32}, {send, 35}, {recv, 24}, {recv, 35}, {pdwait, 3}} {
		l = append(l, fmt.Sprint("woken ", x[0], " error ", x[1]))
	}
	for no := 1; no <= api.Calls; no++ {
		l = append(l, fmt.Sprint("done ", no))
	}
	for _, e := range []int{1, 2, 3, 9, 10, 17, 20, 21, 22, 23, 24, 25, 28, 29, 32, 35, 38, 45, 48, 56, 57, 61, 66, 78, 93, 94} {
		l = append(l, fmt.Sprint("done error ", e))
	}
	return l
}

// tally counts what came of a step of one that waited with a call, or did not.
func tally(count map[string]int, s api.Step, waited api.Req, waits, capable bool, x api.Out) {
	if waits {
		switch {
		case equal(waited, s.Req):
			count["picked with the same"]++
		case s.Req.No < 1 || s.Req.No > api.Calls:
			count["picked with a wrong one"]++
		default:
			count["picked with another"]++
		}
	}
	e := ""
	if x.Res.Err != api.OK {
		e = fmt.Sprint(" error ", int(x.Res.Err))
	}
	switch x.Mark {
	case api.Idle:
		count["idle"]++
	case api.Done:
		if e == "" {
			e = fmt.Sprint(" ", s.Req.No)
		}
		count["done"+e]++
	case api.Woken:
		count[fmt.Sprint("woken ", waited.No, e)]++
	case api.Parked:
		if capable {
			count["waits in capability mode"]++
		}
		if waits {
			count[fmt.Sprint("parked once more ", waited.No)]++
		} else {
			count[fmt.Sprint("parked ", s.Req.No)]++
		}
	}
}

// P24.1 to P24.5: long rows of steps by several processes, in worlds with much room and little, against a plain kernel: what comes of each step, and all there is behind it.
func TestLongRowsAgainstPlain(t *testing.T) {
	t.Parallel()
	count := map[string]int{}
	for seed := range 3000 {
		dice := dice(uint64(seed))
		w, p := twins(limits(dice))
		for _, x := range opening()[:dice(len(opening())+1)] {
			same(t, w, p, api.Step{Pid: x.pid, Req: x.r})
		}
		u := &player{w, dice}
		stuck := 0
		for range 400 {
			s := api.Step{Pid: u.who()}
			waited, waits := w.Parked(s.Pid)
			was := w.Dump().Parks
			switch {
			case waits && dice(4) == 0:
				s.Req = waited
			case !waits && len(was) > 0 && dice(2) == 0:
				s.Req = u.helps(s.Pid, was[dice(len(was))])
			default:
				s.Req = u.request(s.Pid)
			}
			x, _ := w.Procs().Get(s.Pid)
			got := same(t, w, p, s)
			tally(count, s, waited, waits, x.Cap, got)
			if stuck++; got.Mark == api.Done || got.Mark == api.Woken {
				stuck = 0
			}
			if stuck > 12 {
				break // all wait for one another
			}
			for _, x := range was {
				if x.Pid != s.Pid && !w.Procs().Lives(x.Pid) {
					count["ended while it waited"]++
				}
			}
		}
	}
	for _, what := range wanted() {
		if count[what] < 5 {
			t.Errorf("%d times in all rows: %s", count[what], what)
		}
	}
}

// P24.1: each call, asked for in several ways by each process, does what its package's Call does in a world that is alike, and nothing else.
func TestEachCallAgainstItsPackage(t *testing.T) {
	t.Parallel()
	dice := dice(5)
	for _, steps := range [][]row{nil, families(), append(families(), row{second, asks(read, 0, 9), "parked"})} {
		for no := -2; no <= api.Calls+3; no++ {
			for range 25 {
				w, p := begins(t, many, steps...), plain{begins(t, many, steps...), map[int]api.Req{}}
				u := &player{w, dice}
				for _, pid := range []int{first, third, second, 4, 5, 6, 0, -1} {
					r := u.like(pid, no)
					want := p.do(pid, r)
					if got := Do(w, pid, r); fmt.Sprint(got) != fmt.Sprint(want) {
						t.Fatalf("%d: %v: %v, not %v", pid, r, got, want)
					}
				}
				if fmt.Sprint(w.Dump()) != fmt.Sprint(p.Dump()) {
					t.Fatalf("%d: there is\n%v\nnot\n%v", no, w.Dump(), p.Dump())
				}
			}
		}
	}
}

// P24.3, P24.4: requests of any numbers, texts and lists end with one mark, by anybody; by one that waits they play no part.
func TestAnyStep(t *testing.T) {
	t.Parallel()
	dice := dice(7)
	some := func(l ...int) int { return l[dice(len(l))] }
	l := api.Limits{Procs: 4, Fds: 6, Files: 8, Inodes: 4, Blocks: 2, Pipe: 4, Sock: 4}
	w, p := twins(l)
	marks := map[int]int{}
	for i := range 60000 {
		if i%200 == 0 {
			w, p = twins(l)
			for _, x := range []row{{pid: first, r: asks(pipe)}, {pid: first, r: asks(fork)}, {pid: second, r: asks(read, 1, 9)}, {pid: first, r: asks(fork)}} {
				same(t, w, p, api.Step{Pid: x.pid, Req: x.r})
			}
		}
		r := api.Req{No: dice(68) - 1}
		if dice(20) == 0 {
			r.No = some(noCalls...)
		}
		for i := range dice(4) {
			r.A[i] = some(0, 0, 1, 1, 2, 3, 4, 5, -1, api.AtCwd, 256, math.MinInt, math.MaxInt)
		}
		for range some(0, 0, 0, 1, 2, 2, 4, 16, 17, 65) {
			r.L = append(r.L, some(0, 1, 1, 2, 3, -1, math.MinInt, math.MaxInt))
		}
		r.S = strings.Repeat("x", some(0, 0, 0, 1, 2, 33, 257, 4097))
		if dice(8) == 0 {
			r.T = strings.Repeat("/y", some(0, 1, 2, 2049))
		}
		if dice(12) == 0 {
			r = says(write, "x", 2)
		}
		x := same(t, w, p, api.Step{Pid: some(1, 1, 1, 2, 2, 3, 3, 4, 5, 0, -1, math.MinInt, math.MaxInt), Req: r})
		marks[x.Mark]++
	}
	for mark := range 4 {
		if marks[mark] < 50 {
			t.Errorf("%d steps with the mark %d", marks[mark], mark)
		}
	}
}
