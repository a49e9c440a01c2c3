package polls

import (
	"fmt"
	"math"
	"slices"
	"strings"
	"testing"

	"purlieu/api"
	"purlieu/calls"
	"purlieu/capcalls"
	"purlieu/dircalls"
	"purlieu/fscalls"
	"purlieu/ipccalls"
	"purlieu/proccalls"
	"purlieu/slots"
	"purlieu/world"
)

// same does a call, and tells its answer, which is to be what the chapter says.
func same(t *testing.T, p plain, w *world.World, pid int, r api.Req) api.Res {
	t.Helper()
	l := slices.Clone(r.L)
	x := p.call(pid, r)
	got := Call(w, pid, r)
	if got.Val != x.Val || got.Err != x.Err || got.S != x.S || !slices.Equal(got.L, x.L) {
		t.Fatalf("%d: %v: %v, not %v", pid, r, got, x)
	}
	if !slices.Equal(l, r.L) {
		t.Fatalf("%v: the list was %v", r, l)
	}
	return got
}

// P23.1, P23.2: each number, by each process, alone, and each two of them with all that they can be asked for.
func TestEachAgainstPlain(t *testing.T) {
	t.Parallel()
	w := scene(t)
	p := seen(w)
	for _, pid := range []int{first, second, capable, inner, empty, ended, gone, 0, -1} {
		for a := -2; a <= beyond; a++ {
			reads, writes, e := Ready(w, pid, a)
			if x, y, want := p.ready(pid, a); reads != x || writes != y || e != want {
				t.Errorf("%d: %d: %t, %t, %v, not %t, %t, %v", pid, a, reads, writes, e, x, y, want)
			}
			for _, b := range []int{-1, fileR, emptyR, given, mute, just, free} {
				for i := range 50 {
					same(t, p, w, pid, asks(i%2, a, i/2%5, b, i/10))
				}
			}
		}
	}
	if !alike(p.Dump, w.Dump()) {
		t.Error("a change")
	}
}

// player makes requests such as come, in a world that changes.
type player struct {
	*world.World
	dice func(n int) int
}

// dice answers a roller of numbers below n, always the same row of them.
func dice(seed uint64) func(n int) int {
	return func(n int) int {
		seed = seed*6364136223846793005 + 1442695040888963407
		return int(seed >> 33 % uint64(n))
	}
}

// some answers one of l.
func (p *player) some(l ...int) int { return l[p.dice(len(l))] }

// fd answers a number, mostly of a descriptor that there is.
func (p *player) fd(pid int) int {
	if l := p.Slots(pid).All(); len(l) > 0 && p.dice(20) > 0 {
		return p.some(l...)
	}
	return p.dice(p.Limits().Fds+2) - 1
}

// who answers a number of a process, mostly of one that is there.
func (p *player) who() int {
	if p.dice(30) == 0 {
		return p.dice(p.Procs().Numbers()+3) - 2
	}
	l := p.Procs().Dump()
	return l[p.dice(len(l))].Pid
}

// request answers a request of poll: of a few descriptors, or of one asked for what it mostly can't be.
func (p *player) request(pid int) api.Req {
	r := asks(p.dice(2))
	for range p.some(0, 1, 1, 1, 2, 2, 3, p.dice(9)) {
		r.L = append(r.L, p.fd(pid), 1+p.dice(3))
	}
	if p.dice(60) == 0 {
		r.A[p.dice(5)]++
	}
	if len(r.L) > 0 && p.dice(60) == 0 {
		r.L[p.dice(len(r.L))] += p.some(-1, 1, 3)
	}
	if p.dice(60) == 0 {
		r.L = append(r.L, p.fd(pid))
	}
	return r
}

// letter answers a number for a small letter of a call's shape.
func (p *player) letter(c rune, pid int) int {
	switch c {
	case 'f':
		return p.fd(pid)
	case 'd':
		return p.some(api.AtCwd, p.fd(pid), p.fd(pid))
	case 'g':
		return p.some(0, api.OCreat, api.OCreat|both, api.OCreat|wr)
	case 'x':
		return p.some(0, 4, p.dice(6), p.who())
	case 'n':
		return p.some(1, 1, 2, p.dice(12))
	case 'b':
		return p.dice(4)
	case 'm', 'u', 's':
		return p.dice(2)
	case 'h':
		return p.dice(3)
	case 'k':
		return p.some(0, nonblock)
	}
	return 0
}

// of answers a request of another group, of this number.
func (p *player) of(pid, no int) api.Req {
	r := api.Req{No: no}
	call, _ := calls.Get(no)
	at := 0
	for _, c := range call.Shape {
		if c >= 'a' {
			r.A[at] = p.letter(c, pid)
			at++
		}
		switch c {
		case 'S', 'Y':
			r.S = []string{"d", "f", "/", "s", "d/s", "..", "."}[p.dice(7)]
		case 'T':
			r.T = []string{"e", "d/e", "g"}[p.dice(3)]
		case 'B':
			r.S = strings.Repeat("a", p.some(1, 2, p.dice(9)))
		case 'L':
			for range p.dice(3) {
				r.L = append(r.L, p.fd(pid))
			}
		}
	}
	return r
}

// other does a call of another chapter. Those that end a process, and those that take from a descriptor what it needs here, come seldom.
func (p *player) other(pid int) {
	no := 1 + p.dice(api.Calls)
	if p.dice(3) > 0 {
		no = p.some(2, 5, 5, 33, read, read, write, write, write, 6, 6, 19, 19, 41, 42, 42, 43, 45, 46, 48, 49, send, send, recv, 53)
	}
	if (no == 1 || no == 16 || no == 55) && p.dice(4) > 0 {
		return
	}
	r := p.of(pid, no)
	if no == 59 && p.dice(3) == 0 {
		left := api.CapAll &^ (1 << p.some(27, 27, p.dice(32)))
		r.L = []int{1<<57 + int(left%(1<<20)), 1<<58 + int(left>>20)}
	}
	switch calls.Group(no) {
	case "dircalls":
		dircalls.Call(p.World, pid, r)
	case "fscalls":
		fscalls.Call(p.World, pid, r)
	case "ipccalls":
		ipccalls.Call(p.World, pid, r)
	case "proccalls":
		proccalls.Call(p.World, pid, r)
	case "capcalls":
		capcalls.Call(p.World, pid, r)
	}
}

// limits answers how much there may be: much or little.
func limits(dice func(n int) int) api.Limits {
	return api.Limits{Procs: 1 + dice(5), Fds: 2 + dice(14), Files: 3 + dice(24), Inodes: 2 + dice(6), Blocks: 2, Pipe: 1 + dice(5), Sock: 1 + dice(6)}
}

// asItSays reads or writes a byte by a descriptor of a pipe or of a joined socket, and holds whether that waits against what is said. It tells what came of it.
func (p *player) asItSays(t *testing.T, pid int) string {
	t.Helper()
	fd, toWrite := p.fd(pid), p.dice(2) == 0
	need, no := api.CapRead, p.some(read, recv)
	if toWrite {
		need, no = api.CapWrite, p.some(write, send)
	}
	_, f, e := p.Look(pid, fd, need|api.CapEvent)
	sock := f.Kind == api.KSock && p.Socks().State(f.Obj) == api.SockJoined
	pipe := f.Kind == api.KPipe && (f.Flags&wr != 0) == toWrite
	if e != api.OK || !sock && !pipe {
		return "neither"
	}
	if pipe {
		no = map[bool]int{false: read, true: write}[toWrite]
	}
	r := on(no, fd, 1, "")
	if toWrite {
		r = on(no, fd, 0, "x")
	}
	reads, writes, _ := Ready(p.World, pid, fd)
	says := reads
	if toWrite {
		says = writes
	}
	x := fscalls.Call(p.World, pid, r)
	if x.Err == api.ENOSYS {
		x = ipccalls.Call(p.World, pid, r)
	}
	if waits := x.Err == api.EWAIT || x.Err == api.EAGAIN; waits == says {
		t.Fatalf("%d: %v: %v, where it says %t", pid, r, x, says)
	}
	return fmt.Sprint("says ", no, sock, int(x.Err))
}

// answers are, for each kind of thing, what it can be asked for, and what comes of it, as far as calls can bring it about.
var answers = map[int]string{
	api.KFile: "10 11 20 22 31 32 33",
	api.KDir:  "11 20 31",
	api.KPipe: "10 11 20 22 30 31 32",
	api.KSock: "10 11 20 22 30 31 32 33",
	api.KProc: "10 11 20 30 31",
}

// P23.1 to P23.4: long rows of polls by several processes, in worlds with much room and little, with calls of the other chapters between them.
func TestLongRowsAgainstPlain(t *testing.T) {
	t.Parallel()
	count := map[string]int{}
	for seed := range 500 {
		dice := dice(uint64(seed))
		w := world.New(limits(dice))
		w.Open(first, api.KDir, 1, 0, slots.Full(1))
		u := &player{w, dice}
		for range 300 {
			pid := u.who()
			switch n := dice(5); {
			case !w.Procs().Lives(pid):
				same(t, seen(w), w, pid, u.request(pid))
				count["by none"]++
			case n < 2:
				u.other(pid)
			case n == 2:
				count[u.asItSays(t, pid)]++
			default:
				p := seen(w)
				r := u.request(pid)
				x := same(t, p, w, pid, r)
				if !alike(p.Dump, w.Dump()) {
					t.Fatalf("%d: %v: a change", pid, r)
				}
				count[fmt.Sprint("error ", int(x.Err))]++
				for i, n := range x.L {
					_, f, _ := w.Look(pid, r.L[2*i], 0)
					count[fmt.Sprint("kind ", f.Kind, r.L[2*i+1], n)]++
				}
			}
		}
	}
	wanted := []string{"by none", "error 0", "error 9", "error 22", "error 93", "error 1000"}
	for kind, answers := range answers {
		for _, x := range strings.Fields(answers) {
			wanted = append(wanted, fmt.Sprintf("kind %d %c %c", kind, x[0], x[1]))
		}
	}
	for _, e := range []int{0, int(api.EAGAIN), int(api.EWAIT)} {
		for _, no := range []int{read, write, recv, send} {
			wanted = append(wanted, fmt.Sprint("says ", no, true, e))
		}
		wanted = append(wanted, fmt.Sprint("says ", read, false, e), fmt.Sprint("says ", write, false, e))
	}
	for _, what := range append(wanted, fmt.Sprint("says ", write, false, int(api.EPIPE)), fmt.Sprint("says ", write, true, int(api.EPIPE))) {
		if count[what] < 5 {
			t.Errorf("%d times in all rows: %s", count[what], what)
		}
	}
}

// P23.2: requests of any numbers, texts and lists end, and what is handed in stays as it is.
func TestAnyRequest(t *testing.T) {
	t.Parallel()
	dice := dice(7)
	some := func(l ...int) int { return l[dice(len(l))] }
	w := scene(t)
	p := seen(w)
	for range 20000 {
		r := api.Req{No: some(append([]int{polling, polling, polling, polling, polling, polling, read}, noCalls...)...)}
		for i := range dice(3) {
			r.A[i] = some(0, 0, 0, 1, 1, 2, -1, math.MinInt, math.MaxInt)
		}
		for i := range some(0, 1, 2, 2, 2, 4, 4, 6, 16, 17, 18) {
			if i%2 == 0 {
				r.L = append(r.L, some(dice(free), dice(free), dice(free), dice(free), free, -1, math.MinInt, math.MaxInt))
			} else {
				r.L = append(r.L, some(1, 1, 1, 2, 2, 2, 3, 3, 3, 0, 4, math.MinInt, math.MaxInt))
			}
		}
		switch dice(30) {
		case 0:
			r.S = strings.Repeat("x", dice(5))
		case 1:
			r.T = strings.Repeat("x", 4095+dice(3))
		}
		same(t, p, w, some(first, first, second, capable, inner, empty, ended, gone, 0, -1, math.MinInt, math.MaxInt), r)
	}
	if !alike(p.Dump, w.Dump()) {
		t.Error("a change")
	}
}
