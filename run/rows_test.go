package run

import (
	"fmt"
	"math"
	"slices"
	"strings"
	"sync"
	"testing"

	"purlieu/api"
)

// same tells whether what comes of a step is the same.
func same(a, b api.Out) bool {
	return a.Mark == b.Mark && a.Res.Val == b.Res.Val && a.Res.Err == b.Res.Err && a.Res.S == b.Res.S && slices.Equal(a.Res.L, b.Res.L)
}

// differs answers the first place from which on there is something else in one list than in the other one, -1 if there is none.
func differs(a, b []api.Out) int {
	for i := range max(len(a), len(b)) {
		if i >= len(a) || i >= len(b) || !same(a[i], b[i]) {
			return i
		}
	}
	return -1
}

// agrees holds all that a script comes to against the plain kernel.
func agrees(t *testing.T, l api.Limits, s []api.Step) {
	t.Helper()
	p := newPlain(l)
	var want []api.Out
	for _, x := range s {
		want = append(want, p.step(x))
	}
	matches(t, l, s, want, fmt.Sprint(p.all()))
}

// matches holds all that a script comes to against what is to come of it, and what is to be there behind it.
func matches(t *testing.T, l api.Limits, s []api.Step, want []api.Out, all string) {
	t.Helper()
	o, d, ok := Run(l, s)
	if i := differs(o, want); i >= 0 || !ok {
		t.Fatalf("%v: step %d of %d: %v: %v, not %v; %t", l, i, len(s), s[i], o[i], want[i], ok)
	}
	if x := fmt.Sprint(d); x != all {
		t.Fatalf("%v: there is\n%s\nnot\n%s", l, x, all)
	}
}

// limits answers how much there may be: much or little.
func limits(dice func(n int) int) api.Limits {
	return api.Limits{Procs: 1 + dice(6), Fds: 1 + dice(4+dice(14)), Files: 1 + dice(30), Inodes: 1 + dice(3+dice(10)), Blocks: dice(2 + dice(7)), Pipe: 1 + dice(6), Sock: 1 + dice(3+dice(22))}
}

// opening answers steps by which scripts may begin, so that there is something to go to and to wait at.
func opening() (s []api.Step) {
	for _, r := range []api.Req{says(mkdir, "d"), says(open, "d", 0), asks(sock), says(bind, "b", 1), asks(listen, 1, 2), says(mkdir, "d/e"), asks(fork), asks(pipe), asks(pair), says(open, "d/a", api.OCreat|api.OBoth), asks(fork)} {
		s = append(s, api.Step{Pid: 1, Req: r})
	}
	return s
}

// script is a script, and what is to come of it.
type script struct {
	l    api.Limits
	s    []api.Step
	want []api.Out
	all  []string // there is, behind each step
}

// writes makes a script of up to n steps, the same one of each seed, and counts what comes of it. It ends early where all wait for one another.
func writes(seed, n int, each bool, count map[string]int) script {
	dice := dice(uint64(seed))
	x := script{l: limits(dice)}
	p := &player{newPlain(x.l), dice}
	begin := opening()[:dice(len(opening())+1)]
	for stuck := 0; len(x.s) < n && stuck < 12; stuck++ {
		var step api.Step
		if len(x.s) < len(begin) {
			step = begin[len(x.s)]
		} else {
			step = p.step()
		}
		waited := p.parks[step.Pid]
		out := p.plain.step(step)
		tally(count, step, waited, out)
		x.s, x.want = append(x.s, step), append(x.want, out)
		if each {
			x.all = append(x.all, fmt.Sprint(p.all()))
		}
		if out.Mark == api.Done || out.Mark == api.Woken {
			stuck = 0
		}
	}
	if !each {
		x.all = []string{fmt.Sprint(p.all())}
	}
	return x
}

// tally counts what came of a step of one that waited with a call, or with none.
func tally(count map[string]int, s api.Step, waited api.Req, x api.Out) {
	no := waited.No
	if no == 0 {
		no = s.Req.No
	}
	what := []string{"idle", "done", "parked", "woken"}[x.Mark]
	if x.Mark == api.Parked && waited.No != 0 {
		what = "parked once more"
	}
	count[what]++
	if x.Res.Err != api.OK {
		count[fmt.Sprint(what, " error ", int(x.Res.Err))]++
		count[fmt.Sprint(what, " ", no, " error ", int(x.Res.Err))]++
	} else {
		count[fmt.Sprint(what, " ", no)]++
	}
}

// wanted are what is to come of scripts, each often.
func wanted() []string {
	l := []string{"idle"}
	for no := 1; no <= api.Calls; no++ {
		l = append(l, fmt.Sprint("done ", no), fmt.Sprint("done ", no, " error 22"))
	}
	for _, no := range []int{read, write, accept, send, recv, wait, pdwait, poll} {
		l = append(l, fmt.Sprint("parked ", no), fmt.Sprint("parked once more ", no), fmt.Sprint("woken ", no))
	}
	for _, e := range []int{1, 2, 3, 9, 10, 17, 20, 21, 22, 23, 24, 25, 27, 28, 29, 32, 35, 38, 45, 48, 56, 57, 61, 62, 63, 66, 78, 93, 94} {
		l = append(l, fmt.Sprint("done error ", e))
	}
	for _, e := range []int{23, 24, 32, 35} {
		l = append(l, fmt.Sprint("woken error ", e))
	}
	for _, no := range []int{openat, mkdirat, unlinkat, renameat, linkat, symlnkat, readlnat, fstatat, bindat, connctat, fchdir} {
		l = append(l, fmt.Sprint("done ", no, " error 20"), fmt.Sprint("done ", no, " error 94"))
	}
	return l
}

// P25.1 to P25.3: scripts of all calls, by several processes, with much room and little, against a plain kernel: what comes of each step, and all there is behind the last one; and what Feed and Until tell of them.
func TestScriptsAgainstPlain(t *testing.T) {
	var counts sync.Mutex
	count := map[string]int{}
	t.Run("scripts", func(t *testing.T) {
		for part := range 6 {
			t.Run("", func(t *testing.T) {
				t.Parallel()
				mine := map[string]int{}
				for seed := part * 500; seed < part*500+500; seed++ {
					x := writes(seed, 200, false, mine)
					matches(t, x.l, x.s, x.want, x.all[0])
					fed(t, x, seed%(len(x.s)+2))
				}
				counts.Lock()
				defer counts.Unlock()
				for what, n := range mine {
					count[what] += n
				}
			})
		}
	})
	for _, what := range wanted() {
		if count[what] < 5 {
			t.Errorf("%d times in all scripts: %s", count[what], what)
		}
	}
}

// fed holds what Feed and Until tell of a script against what is to come.
func fed(t *testing.T, x script, room int) {
	t.Helper()
	n := min(room, len(x.s))
	if o, more := Feed(x.l, x.s, room); differs(o, x.want[:n]) >= 0 || more != len(x.s)-n {
		t.Fatalf("%v: %d: Feed: %v %d", x.l, room, o, more)
	}
	mark := room % 4
	n = 1 + slices.IndexFunc(x.want, func(o api.Out) bool { return o.Mark == mark })
	if n == 0 {
		n = len(x.s)
	}
	if o := Until(x.l, x.s, mark); differs(o, x.want[:n]) >= 0 {
		t.Fatalf("%v: %d: Until: %v", x.l, mark, o)
	}
}

// reached counts which of the limits were come to by all there is, and answers which is passed, if one is.
func reached(count map[string]int, l api.Limits, d api.Dump) string {
	passed := ""
	holds := func(what string, n, most int) {
		if n == most {
			count[what]++
		}
		if n > most {
			passed = fmt.Sprintf("%s: %d, not %d", what, n, most)
		}
	}
	holds("processes", len(d.Procs), l.Procs)
	fds := map[int]int{}
	for _, h := range d.Held {
		fds[h.Pid]++
		holds("descriptors", fds[h.Pid], l.Fds)
		if h.Fd < 0 || h.Fd >= l.Fds {
			passed = fmt.Sprintf("the descriptor %d", h.Fd)
		}
	}
	holds("open files", len(d.Files), l.Files)
	holds("inodes", len(d.Inodes), l.Inodes)
	blocks := 0
	for _, n := range d.Inodes {
		blocks += n.Blocks
	}
	holds("blocks", blocks, l.Blocks)
	for _, p := range d.Pipes {
		holds("bytes of a pipe", len(p.B), l.Pipe)
	}
	for _, s := range d.Socks {
		n := 0
		for _, p := range s.Parts {
			n += len(p.B)
		}
		holds("bytes of a socket", n, l.Sock)
	}
	return passed
}

// P25.3 to P25.5: what comes of the first steps of a script is the beginning of what comes of it; behind each step there is what is there in a plain kernel, and no more than there may be.
func TestBeginnings(t *testing.T) {
	t.Parallel()
	count := map[string]int{}
	for seed := range 120 {
		x := writes(100000+seed, 120, true, map[string]int{})
		whole, _, _ := Run(x.l, x.s)
		for i := range len(x.s) + 1 {
			o, d, ok := Run(x.l, x.s[:i])
			if !ok || len(o) != i || differs(o, whole[:i]) >= 0 {
				t.Fatalf("seed %d: %d of %d steps: %v", seed, i, len(x.s), o)
			}
			if i > 0 && fmt.Sprint(d) != x.all[i-1] {
				t.Fatalf("seed %d: behind step %d there is\n%v\nnot\n%v", seed, i-1, d, x.all[i-1])
			}
			if passed := reached(count, x.l, d); passed != "" {
				t.Fatalf("seed %d: step %d: %v: %s", seed, i-1, x.s[i-1], passed)
			}
		}
	}
	for _, what := range []string{"processes", "descriptors", "open files", "inodes", "blocks", "bytes of a pipe", "bytes of a socket"} {
		if count[what] < 30 {
			t.Errorf("%d times at the limit: %s", count[what], what)
		}
	}
}

// anyStep answers a step of any numbers, texts and lists, by anybody.
func anyStep(dice func(n int) int) api.Step {
	some := func(l ...int) int { return l[dice(len(l))] }
	r := api.Req{No: dice(68) - 1}
	if dice(20) == 0 {
		r.No = some(noCalls...)
	}
	for i := range dice(4) {
		r.A[i] = some(0, 0, 1, 1, 2, 3, 4, 5, -1, api.AtCwd, 256, math.MinInt, math.MaxInt)
	}
	if dice(30) == 0 {
		r.A[dice(5)] = some(math.MinInt, math.MaxInt, 1<<40, 1<<40+1)
	}
	for range some(0, 0, 0, 1, 2, 2, 4, 16, 17, 65) {
		r.L = append(r.L, some(0, 1, 1, 2, 3, -1, math.MinInt, math.MaxInt))
	}
	r.S = strings.Repeat([]string{"x", "/", "\x00", "\xff"}[dice(4)], some(0, 0, 0, 1, 2, 33, 256, 257, 4096, 4097))
	if dice(8) == 0 {
		r.T = strings.Repeat("/y", some(0, 1, 2, 128, 129, 2048, 2049))
	}
	return api.Step{Pid: some(1, 1, 1, 2, 2, 3, 3, 4, 5, 0, -1, math.MinInt, math.MaxInt), Req: r}
}

// P25.3: scripts of any requests, those that can't be among them, by anybody, against a plain kernel.
func TestAnySteps(t *testing.T) {
	t.Parallel()
	dice := dice(11)
	marks := map[int]int{}
	for range 400 {
		s := []api.Step{{Pid: 1, Req: asks(pipe)}, {Pid: 1, Req: asks(fork)}, {Pid: 1, Req: asks(pdfork)}, {Pid: 2, Req: asks(read, 0, 9)}}
		if dice(2) == 0 {
			s = opening()
		}
		for range 150 {
			if dice(20) == 0 {
				s = append(s, api.Step{Pid: 1 + dice(3), Req: []api.Req{asks(pipe), asks(fork), asks(read, 0, 9), asks(pdfork), says(write, "x", 1)}[dice(5)]})
			}
			s = append(s, anyStep(dice))
		}
		l := limits(dice)
		agrees(t, l, s)
		o, _, _ := Run(l, s)
		for _, x := range o {
			marks[x.Mark]++
		}
	}
	for mark := range 4 {
		if marks[mark] < 10 {
			t.Errorf("%d steps with the mark %d", marks[mark], mark)
		}
	}
}
