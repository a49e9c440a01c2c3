package capcalls

import (
	"fmt"
	"math"
	"slices"
	"strings"
	"testing"

	"purlieu/api"
	"purlieu/calls"
	"purlieu/dircalls"
	"purlieu/fscalls"
	"purlieu/ipccalls"
	"purlieu/proccalls"
	"purlieu/slots"
	"purlieu/world"
)

// same does a call, and tells its answer, and whether it and what is there then is what the chapter says; and whether something is another one.
func same(t *testing.T, p *plain, w *world.World, pid int, r api.Req) (api.Res, bool) {
	t.Helper()
	was := w.Dump()
	l := slices.Clone(r.L)
	x := p.call(pid, r)
	got := Call(w, pid, r)
	now := w.Dump()
	if got.Val != x.Val || got.Err != x.Err || got.S != x.S || !slices.Equal(got.L, x.L) || !alike(now, p.d) {
		t.Fatalf("%d: %v: %v, not %v; there is\n%q\nnot\n%q\nfrom\n%q", pid, r, got, x, more(lines(now), lines(p.d)), more(lines(p.d), lines(now)), more(lines(was), lines(p.d)))
	}
	if !slices.Equal(l, r.L) {
		t.Fatalf("%v: the list was %v", r, l)
	}
	return got, !alike(now, was)
}

// within tells whether a descriptor has nothing that another one has not.
func within(a, b api.Slot) bool {
	for _, cmd := range a.Ioctls.L {
		if !b.Ioctls.All && !slices.Contains(b.Ioctls.L, cmd) {
			return false
		}
	}
	return a.File == b.File && a.Rights|b.Rights == b.Rights && a.Fcntls|b.Fcntls == b.Fcntls && (b.Ioctls.All || !a.Ioctls.All)
}

// limitsOf answers limits of a descriptor of all kinds: to all, to more than there is, to less, to none, to what there can't be.
func limitsOf(fd int) []api.Req {
	l := []api.Req{ioctls(fd), ioctls(fd, 2), ioctls(fd, 9, 5, 2), ioctls(fd, 5, 5), ioctls(fd, 2, 3), ioctls(fd, -1, 2), ioctls(fd, upTo(1, 32)...), ioctls(fd, upTo(1, 33)...)}
	for mask := -8; mask <= 136; mask += 4 {
		l = append(l, req(fcntlsLimit, fd, mask))
	}
	for _, a := range []api.Rights{0, api.CapAll, fewRights, api.CapRead, api.CapWrite, api.CapFcntl, api.CapIoctl, api.CapAll &^ api.CapFcntl, api.CapAll &^ api.CapIoctl} {
		l = append(l, limitTo(fd, a))
	}
	for _, x := range [][2]int{{0, 0}, {1 << 57, 1<<58 + 1<<12}, {1<<57 + 1<<20, 1 << 58}, {1 << 58, 1 << 57}, {-1, -1}, {1 << 57, -1 << 58}} {
		l = append(l, api.Req{No: rightsLimit, A: [5]int{fd}, L: x[:]})
	}
	return l
}

// requests answers each call of the chapter on a number.
func requests(n int) []api.Req {
	l := []api.Req{req(enter), req(enter, n), req(getmode), req(getmode, n)}
	for _, no := range gets {
		l = append(l, req(no, n), req(no, n, n))
	}
	return append(l, limitsOf(n)...)
}

// P22.1 to P22.3: each call on each number, by each process: what it answers, and all there is behind it.
func TestEachCallAgainstPlain(t *testing.T) {
	t.Parallel()
	w := scene(t)
	p := newPlain(w)
	for _, pid := range []int{first, second, capable, inner, empty, ended, gone, 0, -1} {
		for n := -3; n <= beyond+1; n++ {
			for _, r := range requests(n) {
				if _, changed := same(t, p, w, pid, r); changed {
					w = scene(t)
					p = newPlain(w)
				}
			}
		}
	}
}

// P22.3: behind each limit, and behind each second one: what is there is within what was, nothing else is another one, and what the gets tell can be limited to.
func TestOnlyLess(t *testing.T) {
	t.Parallel()
	for _, fd := range held {
		for _, r := range limitsOf(fd) {
			w := scene(t)
			limitsLess(t, w, fd, r)
			if fd != file && fd != few {
				continue
			}
			for _, again := range limitsOf(fd) {
				v := scene(t)
				Call(v, first, r)
				limitsLess(t, v, fd, again)
			}
		}
	}
}

// limitsLess limits a descriptor, and looks at what came of it.
func limitsLess(t *testing.T, w *world.World, fd int, r api.Req) {
	t.Helper()
	was, _ := w.Slots(first).Get(fd, 0)
	before := w.Dump()
	x := Call(w, first, r)
	now, e := w.Slots(first).Get(fd, 0)
	if e != api.OK || !within(now, was) {
		t.Errorf("%v: %v, from %v", r, now, was)
	}
	after := w.Dump()
	if x.Err != api.OK && !alike(before, after) {
		t.Errorf("%v: %v, and a change", r, x)
	}
	i := slices.IndexFunc(after.Held, func(h api.Held) bool { return h.Pid == first && h.Fd == fd })
	after.Held[i].Slot = was
	if !alike(before, after) {
		t.Errorf("%v: more than the descriptor is another one", r)
	}
	toldAgain(t, w, fd)
}

// toldAgain limits a descriptor to what each get of it tells. All commands of ioctl are no list, and can't be limited to.
func toldAgain(t *testing.T, w *world.World, fd int) {
	t.Helper()
	before := w.Dump()
	a, b, c := Call(w, first, req(rightsGet, fd)), Call(w, first, req(ioctlsGet, fd)), Call(w, first, req(fcntlsGet, fd))
	l := []api.Req{{No: rightsLimit, A: [5]int{fd}, L: a.L}, req(fcntlsLimit, fd, c.Val)}
	if b.Val >= 0 {
		l = append(l, ioctls(fd, b.L...))
	}
	for _, r := range l {
		if x := Call(w, first, r); x.Err != api.OK || !alike(before, w.Dump()) {
			t.Errorf("%v, as a get told: %v, or a change", r, x)
		}
	}
}

// player makes requests such as come, in a world that changes.
type player struct {
	*world.World
	dice func(n int) int
}

// dice answers a roller of numbers below n, always the same row of them.
func dice(seed uint64) func(n int) int {
	return func(n int) int {
		seed = seed*6364136223846793005 + 1442695040888963407
		return int(seed >> 33 % uint64(n))
	}
}

// some answers one of l.
func (p *player) some(l ...int) int { return l[p.dice(len(l))] }

// fd answers a number, mostly of a descriptor that there is.
func (p *player) fd(pid int) int {
	if l := p.Slots(pid).All(); len(l) > 0 && p.dice(15) > 0 {
		return p.some(l...)
	}
	return p.dice(p.Limits().Fds+2) - 1
}

// who answers a number of a process, mostly of one that is there.
func (p *player) who() int {
	if p.dice(10) == 0 {
		return p.dice(p.Procs().Numbers()+3) - 2
	}
	l := p.Procs().Dump()
	return l[p.dice(len(l))].Pid
}

// set answers some of 32 bits: a few, most, or about the half; fcntl and ioctl stay mostly.
func (p *player) set(was api.Rights) api.Rights {
	a := was
	for range p.dice(4) {
		a &^= 1 << p.dice(32)
	}
	switch p.dice(12) {
	case 0:
		a |= 1 << p.dice(32)
	case 1:
		a &= api.Rights(p.dice(1 << 31))
	}
	return a
}

// request answers a request of this chapter: mostly a limit to less than there is.
func (p *player) request(pid int) api.Req {
	no := p.some(append(chapter, rightsLimit, ioctlsLimit, ioctlsLimit, fcntlsLimit)...)
	if no == enter && p.dice(5) > 0 || no == getmode {
		return req(getmode)
	}
	if no == enter {
		return req(enter)
	}
	r := req(no, p.fd(pid))
	s, _ := p.Slots(pid).Get(r.A[0], 0)
	switch no {
	case rightsLimit:
		r.L = raw(p.set(s.Rights))
	case ioctlsLimit:
		r.L = p.commands(s.Ioctls.L)
	case fcntlsLimit:
		r.A[1] = s.Fcntls&^(8<<p.dice(5)) ^ p.some(0, 0, 0, 0, 0, 8, 64, 1, 128)
	}
	if p.dice(100) == 0 {
		r.A[p.dice(5)]++
	}
	if len(r.L) > 0 && p.dice(15) == 0 {
		r.L[p.dice(len(r.L))] ^= 1 << p.dice(64)
	}
	return r
}

// commands answers numbers, mostly from l, some of them twice, in any order.
func (p *player) commands(l []int) []int {
	var c []int
	for range p.dice(6) {
		if len(l) > 0 && p.dice(8) > 0 {
			c = append(c, p.some(l...))
		} else {
			c = append(c, p.dice(9))
		}
	}
	switch p.dice(12) {
	case 0:
		for range 40 {
			c = append(c, p.dice(50))
		}
	case 1:
		c = append(c, l...)
	}
	return c
}

// of answers a request of another group, of this number.
func (p *player) of(pid, no int) api.Req {
	r := api.Req{No: no}
	fd := 0
	call, _ := calls.Get(no)
	for i, c := range strings.Map(func(c rune) rune {
		if c >= 'a' {
			return c
		}
		return -1
	}, call.Shape) {
		switch c {
		case 'f':
			r.A[i] = p.fd(pid)
		case 'd':
			r.A[i] = p.some(api.AtCwd, p.fd(pid), p.fd(pid))
		case 'g':
			r.A[i] = p.some(0, 0, api.OCreat|api.OBoth, api.OWrite)
		case 'x':
			r.A[i] = p.some(fd, p.dice(6), p.who())
		case 'n', 'm', 'u', 's':
			r.A[i] = p.dice(2)
		}
	}
	for _, c := range call.Shape {
		switch c {
		case 'S', 'Y':
			r.S = []string{"d", "f", "/", "d/f", "..", "."}[p.dice(6)]
		case 'T':
			r.T = []string{"e", "d/e", "g"}[p.dice(3)]
		case 'B':
			r.S = "ab"
		case 'L':
			r.L = []int{p.fd(pid)}
		}
	}
	return r
}

// other does a call of another chapter.
func (p *player) other(pid int) {
	no := 1 + p.dice(api.Calls)
	if p.dice(2) == 0 {
		no = p.some(2, 17, 18, 33, 34, 50, 51, 53, 42)
	}
	if (no == 1 || no == 16 || no == 55) && p.dice(4) > 0 { // those that end a process
		return
	}
	r := p.of(pid, no)
	switch calls.Group(no) {
	case "dircalls":
		dircalls.Call(p.World, pid, r)
	case "fscalls":
		fscalls.Call(p.World, pid, r)
	case "ipccalls":
		ipccalls.Call(p.World, pid, r)
	case "proccalls":
		proccalls.Call(p.World, pid, r)
	}
}

// limits answers how much there may be: much or little.
func limits(dice func(n int) int) api.Limits {
	return api.Limits{Procs: 1 + dice(9), Fds: 2 + dice(12), Files: 2 + dice(24), Inodes: 2 + dice(6), Blocks: 2, Pipe: 1 + dice(9), Sock: 1 + dice(9)}
}

// wrongs are what each call is told in a long row, besides OK.
var wrongs = map[int][]api.Errno{
	enter: nil, getmode: nil, rightsGet: {api.EBADF, api.EINVAL}, ioctlsGet: {api.EBADF, api.EINVAL}, fcntlsGet: {api.EBADF, api.EINVAL},
	rightsLimit: {api.EBADF, api.EINVAL, api.ENOTCAPABLE}, ioctlsLimit: {api.EBADF, api.EINVAL, api.ENOTCAPABLE}, fcntlsLimit: {api.EBADF, api.EINVAL, api.ENOTCAPABLE},
}

// stays holds a dump against the one ahead of it: who was in capability mode is, and so is each child of one.
func stays(t *testing.T, before, after api.Dump) {
	t.Helper()
	was := map[int]api.Proc{}
	for _, x := range before.Procs {
		was[x.Pid] = x
	}
	for _, x := range after.Procs {
		old, there := was[x.Pid]
		if !x.Cap && (there && old.Cap || !there && was[x.Parent].Cap) {
			t.Fatalf("%v, from %v", x, old)
		}
	}
}

// P22.1 to P22.4: long rows of calls by several processes, in worlds with much room and little, with calls of the other chapters between them.
func TestLongRowsAgainstPlain(t *testing.T) {
	t.Parallel()
	count := map[string]int{}
	for seed := range 300 {
		dice := dice(uint64(seed))
		w := world.New(limits(dice))
		w.Open(first, api.KDir, 1, 0, slots.Full(1))
		u := &player{w, dice}
		p := newPlain(w)
		for range 300 {
			pid := u.who()
			before := w.Dump()
			switch {
			case !w.Procs().Lives(pid):
				same(t, p, w, pid, req(u.some(chapter...), dice(9)))
				count["by none"]++
			case dice(2) == 0:
				u.other(pid)
				p.sees(w)
			default:
				r := u.request(pid)
				x, changed := same(t, p, w, pid, r)
				count[fmt.Sprint(r.No, int(x.Err), changed)]++
				if len(x.L) > 0 && r.No == ioctlsGet {
					count["a whitelist"]++
				}
				if x.Val < 0 {
					count["all commands"]++
				}
				if r.No == getmode {
					count[fmt.Sprint("mode ", x.Val)]++
				}
			}
			stays(t, before, w.Dump())
		}
	}
	seen := func(what string) {
		if count[what] < 5 {
			t.Errorf("%d times in all rows: %s", count[what], what)
		}
	}
	for _, what := range []string{"by none", "a whitelist", "all commands", "mode 0", "mode 1"} {
		seen(what)
	}
	for no, errs := range wrongs {
		seen(fmt.Sprint(no, 0, false))
		for _, e := range errs {
			seen(fmt.Sprint(no, int(e), false))
		}
	}
	for _, no := range []int{enter, rightsLimit, ioctlsLimit, fcntlsLimit} {
		seen(fmt.Sprint(no, 0, true))
	}
}

// P22.4: no call of any chapter takes a process out of capability mode, whatever it is asked; nor a child of one.
func TestStays(t *testing.T) {
	t.Parallel()
	count := map[int]int{}
	for seed := range 200 {
		dice := dice(uint64(seed) + 1000)
		w := scene(t)
		u := &player{w, dice}
		for range 100 {
			pid := u.some(capable, inner, capable, u.who())
			before := w.Dump()
			if dice(4) == 0 {
				Call(w, pid, u.request(capable))
			} else {
				u.other(pid)
			}
			after := w.Dump()
			stays(t, before, after)
			count[len(after.Procs)-len(before.Procs)]++
		}
	}
	if count[1] < 5 || count[-1] < 5 {
		t.Errorf("processes more and less: %v", count)
	}
}

// P22.1: requests of any numbers, texts and lists end, and what is handed in stays as it is.
func TestAnyRequest(t *testing.T) {
	t.Parallel()
	dice := dice(7)
	some := func(l ...int) int { return l[dice(len(l))] }
	w := scene(t)
	p := newPlain(w)
	for range 20000 {
		r := api.Req{No: some(append(noCalls, chapter...)...)}
		if dice(2) == 0 {
			r.No = some(chapter...)
		}
		for i := range dice(4) {
			r.A[i] = some(0, 0, 0, 1, 8, 120, api.AtCwd, -1, free, 64, math.MinInt, math.MaxInt, dice(1<<20), dice(free), dice(free))
		}
		for range some(0, 0, 1, 2, 2, 2, 3, 33, 64, 65) {
			r.L = append(r.L, some(0, 2, 5, 9, -1, 1<<57, 1<<58, 1<<57+dice(1<<20), 1<<58+dice(1<<12), math.MinInt, math.MaxInt, dice(100)))
		}
		switch dice(12) {
		case 0:
			r.S = strings.Repeat("x", dice(5))
		case 1:
			r.T = strings.Repeat("x", 4095+dice(3))
		}
		if _, changed := same(t, p, w, some(first, first, second, capable, inner, empty, ended, gone, 0, -1, math.MinInt, math.MaxInt), r); changed {
			w = scene(t)
			p = newPlain(w)
		}
	}
}
