package procs

import (
	"fmt"
	"math"
	"slices"
	"testing"

	"purlieu/api"
)

// What has become of a process, in the model.
const (
	lives = iota
	over
	gone
)

// forked is a process that was forked once, in the model: by whom, how, and what has become of it.
type forked struct {
	by, state, code, dir int
	pd, enters           bool
}

// plain is a table as the chapter says it: all processes that ever were, in the order of their numbers, with those that are gone among them.
type plain struct {
	most int
	all  []*forked
}

func newPlain(most int) *plain { return &plain{most: most, all: []*forked{{dir: 1}}} }

// in answers the process of that number, if it is there.
func (p *plain) in(pid int) *forked {
	for i, f := range p.all {
		if i+1 == pid && f.state != gone {
			return f
		}
	}
	return nil
}

func (p *plain) alive(pid int) *forked {
	if f := p.in(pid); f != nil && f.state == lives {
		return f
	}
	return nil
}

// parent is who forked it, as long as that one lives, and 1 from then on.
func (p *plain) parent(f *forked) int {
	if f.by != 0 && p.alive(f.by) == nil {
		return 1
	}
	return f.by
}

func (p *plain) dump() []api.Proc {
	var all []api.Proc
	for i, f := range p.all {
		if f.state == gone {
			continue
		}
		all = append(all, api.Proc{Pid: i + 1, Parent: p.parent(f), Lives: f.state == lives, Code: f.code, Pd: f.pd, Cap: f.enters, Cwd: f.dir})
	}
	return all
}

func (p *plain) room() int { return p.most - len(p.dump()) }

func (p *plain) fork(pid int, pd bool) (int, api.Errno) {
	f := p.alive(pid)
	if f == nil {
		return 0, api.ESRCH
	}
	if p.room() == 0 {
		return 0, api.EAGAIN
	}
	p.all = append(p.all, &forked{by: pid, dir: f.dir, pd: pd, enters: f.enters})
	return len(p.all), api.OK
}

func (p *plain) exit(pid, code int) api.Errno {
	f := p.alive(pid)
	if f == nil {
		return api.ESRCH
	}
	if f.by == 0 {
		return api.EPERM
	}
	f.state, f.code, f.dir = over, code, 0
	return api.OK
}

func (p *plain) wait(pid, which int) (int, int, api.Errno) {
	if which < 0 {
		return 0, 0, api.EINVAL
	}
	var meant []int
	for i, f := range p.all {
		if f.state != gone && p.parent(f) == pid && !f.pd && (which == 0 || which == i+1) {
			meant = append(meant, i+1)
		}
	}
	if len(meant) == 0 {
		return 0, 0, api.ECHILD
	}
	meant = slices.DeleteFunc(meant, func(pid int) bool { return p.alive(pid) != nil })
	if len(meant) == 0 {
		return 0, 0, api.EAGAIN
	}
	least := slices.Min(meant)
	f := p.in(least)
	f.state = gone
	return least, f.code, api.OK
}

func (p *plain) reap(pid int) (int, api.Errno) {
	f := p.in(pid)
	if f == nil {
		return 0, api.ESRCH
	}
	if f.state == lives {
		return 0, api.EAGAIN
	}
	f.state = gone
	return f.code, api.OK
}

func (p *plain) enter(pid int) api.Errno {
	f := p.alive(pid)
	if f == nil {
		return api.ESRCH
	}
	f.enters = true
	return api.OK
}

func (p *plain) move(pid, dir int) (int, api.Errno) {
	f := p.alive(pid)
	if f == nil {
		return 0, api.ESRCH
	}
	if dir <= 0 {
		return 0, api.EINVAL
	}
	was := f.dir
	f.dir = dir
	return was, api.OK
}

// step is a call that changes, or would change, a table: 'f'ork, fork with 'p'd, e'x'it, 'w'ait, 'r'eap, 'e'nter, 'm'ove.
type step struct {
	what   byte
	pid, n int
}

func (s step) String() string { return fmt.Sprintf("%c(%d, %d)", s.what, s.pid, s.n) }

// answer is what a step tells.
type answer struct {
	a, b int
	e    api.Errno
}

func (s step) onTable(x *Table) (a answer) {
	switch s.what {
	case 'f':
		a.a, a.e = x.Fork(s.pid, false)
	case 'p':
		a.a, a.e = x.Fork(s.pid, true)
	case 'x':
		a.e = x.Exit(s.pid, s.n)
	case 'w':
		a.a, a.b, a.e = x.Wait(s.pid, s.n)
	case 'r':
		a.a, a.e = x.Reap(s.pid)
	case 'e':
		a.e = x.Enter(s.pid)
	case 'm':
		a.a, a.e = x.Move(s.pid, s.n)
	}
	return a
}

func (s step) onPlain(p *plain) (a answer) {
	switch s.what {
	case 'f':
		a.a, a.e = p.fork(s.pid, false)
	case 'p':
		a.a, a.e = p.fork(s.pid, true)
	case 'x':
		a.e = p.exit(s.pid, s.n)
	case 'w':
		a.a, a.b, a.e = p.wait(s.pid, s.n)
	case 'r':
		a.a, a.e = p.reap(s.pid)
	case 'e':
		a.e = p.enter(s.pid)
	case 'm':
		a.a, a.e = p.move(s.pid, s.n)
	}
	return a
}

// same makes a step on both, and tells whether both answer alike and have the same then; with an error, nothing may be told beside it and the table must be as it was.
func same(x *Table, p *plain, s step) (answer, error) {
	before, next := x.Dump(), x.Numbers()
	got, want := s.onTable(x), s.onPlain(p)
	if got != want {
		return got, fmt.Errorf("%v: %v, not %v", s, got, want)
	}
	now := x.Dump()
	if got.e != api.OK && (got != answer{e: got.e} || !slices.Equal(now, before) || x.Numbers() != next) {
		return got, fmt.Errorf("%v: %v changes %v to %v", s, got, before, now)
	}
	if all := p.dump(); !slices.Equal(now, all) {
		return got, fmt.Errorf("%v: %v, not %v", s, now, all)
	}
	if x.Room() != p.room() || x.Numbers() != len(p.all)+1 {
		return got, fmt.Errorf("%v: Room %d, Numbers %d, not %d, %d", s, x.Room(), x.Numbers(), p.room(), len(p.all)+1)
	}
	if e := asks(x, now); e != nil {
		return got, e
	}
	if e := related(now); e != nil {
		return got, fmt.Errorf("%v: %v", s, e)
	}
	return got, stays(before, now)
}

// asks tells whether Get and Lives say what Dump says, of all numbers that may be there, and of those beside them.
func asks(x *Table, all []api.Proc) error {
	at := 0
	for pid := -1; pid <= x.Numbers()+1; pid++ {
		var want api.Proc
		there := at < len(all) && all[at].Pid == pid
		if there {
			want = all[at]
			at++
		}
		if p, ok := x.Get(pid); p != want || ok != there || x.Lives(pid) != want.Lives {
			return fmt.Errorf("Get(%d): %v %v, Lives %v, not %v", pid, p, ok, x.Lives(pid), want)
		}
	}
	return nil
}

// related is P14.5, word by word.
func related(all []api.Proc) error {
	for _, p := range all {
		living := slices.ContainsFunc(all, func(q api.Proc) bool { return q.Pid == p.Parent && q.Lives })
		if p.Pid == 1 && (p.Parent != 0 || !p.Lives) || p.Pid != 1 && !living {
			return fmt.Errorf("no parent of %v lives", p)
		}
	}
	return nil
}

// stays is P14.6, word by word: whoever was there is asked as it was, and whoever is new as its parent was.
func stays(before, now []api.Proc) error {
	mode := map[int]bool{}
	for _, p := range before {
		mode[p.Pid] = p.Cap
	}
	for _, p := range now {
		was, old := mode[p.Pid]
		if !old {
			was = mode[p.Parent]
		}
		if was && !p.Cap {
			return fmt.Errorf("%v is not in capability mode any more", p)
		}
	}
	return nil
}

// rows makes every row of so many steps, from what the scene comes to.
func rows(t *testing.T, most, length int, scene, steps []step) {
	t.Helper()
	count := 1
	for range length {
		count *= len(steps)
	}
	for row := range count {
		x, p := made(t, most), newPlain(most)
		all := slices.Clone(scene)
		for k, rest := 0, row; k < length; k, rest = k+1, rest/len(steps) {
			all = append(all, steps[rest%len(steps)])
		}
		for k, s := range all {
			if _, e := same(x, p, s); e != nil {
				t.Fatalf("room for %d, row %d, step %d: %v", most, row, k, e)
			}
		}
	}
}

// P14.1 to P14.6: every row of four steps out of some, on tables with room for 1 to 4, comes to what the plain one comes to.
func TestRowsAgainstPlain(t *testing.T) {
	steps := []step{
		{'f', 1, 0}, {'p', 1, 0}, {'f', 2, 0}, {'p', 2, 0}, {'f', 3, 0},
		{'x', 1, 4}, {'x', 2, 7}, {'x', 3, 0},
		{'w', 1, 0}, {'w', 1, 2}, {'w', 2, 0}, {'w', 1, -1}, {'w', 0, 0},
		{'r', 2, 0}, {'r', 3, 0}, {'e', 1, 0}, {'e', 2, 0}, {'m', 1, 5}, {'m', 2, 0},
	}
	for most := 1; most <= 4; most++ {
		rows(t, most, 4, nil, steps)
	}
}

// P14.1 to P14.6: every row of three steps from a family in which some ended, some are gone, and some are in capability mode.
func TestRowsFromTheMiddle(t *testing.T) {
	scene := []step{
		{'f', 1, 0}, {'f', 2, 0}, {'p', 2, 0}, {'e', 2, 0}, {'f', 3, 0}, {'f', 2, 0}, {'m', 3, 6}, {'p', 3, 0},
		{'x', 5, 9}, {'x', 6, 8}, {'r', 6, 0}, {'x', 4, 3}, {'f', 3, 0},
	}
	var steps []step
	for pid := range 10 {
		steps = append(steps, step{'f', pid, 0}, step{'x', pid, 5}, step{'w', pid, 0}, step{'r', pid, 0})
	}
	steps = append(steps, step{'p', 3, 0}, step{'w', 1, 5}, step{'w', 3, 5}, step{'w', 2, 4}, step{'e', 8, 0}, step{'m', 3, 1}, step{'w', 3, -1})
	rows(t, 8, 3, scene, steps)
}

// dice answers a roller of numbers below n, always the same row of them.
func dice(seed uint64) func(n int) int {
	return func(n int) int {
		seed = seed*6364136223846793005 + 1442695040888963407
		return int(seed >> 33 % uint64(n))
	}
}

// roll answers a step such as comes, mostly of who is there, with edges and wrong things among it.
func roll(dice func(n int) int, all []api.Proc, next int, fills bool) step {
	pick := func(l ...int) int { return l[dice(len(l))] }
	who := func() int {
		if dice(5) > 0 {
			return all[dice(len(all))].Pid
		}
		return pick(0, -1, 1, next, next-1, dice(next+2), math.MaxInt, math.MinInt)
	}
	s := step{what: "fpxwrem"[dice(7)], pid: who()}
	if dice(3) == 0 || !fills && dice(2) == 0 {
		s.what = "xwr"[dice(3)]
		if fills {
			s.what = "fp"[dice(2)]
		}
	}
	switch s.what {
	case 'x':
		s.n = pick(0, 1, dice(256), -1, math.MaxInt, math.MinInt)
	case 'm':
		s.n = pick(0, 1, 1+dice(9), -1, math.MaxInt, math.MinInt)
	case 'w':
		s.n = pick(0, 0, who(), -1, math.MinInt)
		if p := all[dice(len(all))]; dice(2) == 0 {
			s.pid, s.n = p.Parent, pick(0, p.Pid, p.Pid)
		}
	}
	return s
}

// P14.1 to P14.6: long rows of steps, which fill tables of several sizes and empty them, come to what the plain ones come to; no number is handed out twice.
func TestLongRowsAgainstPlain(t *testing.T) {
	for _, most := range []int{1, 2, 3, 7, 32, 63, 64} {
		dice := dice(uint64(most))
		x, p := made(t, most), newPlain(most)
		full, emptied, told, last := false, false, map[string]int{}, 1
		length := 8*most + 200
		for i := range 6 * length {
			s := roll(dice, x.Dump(), x.Numbers(), i/length%2 == 0)
			a, e := same(x, p, s)
			if e != nil {
				t.Fatalf("room for %d, step %d: %v", most, i, e)
			}
			told[fmt.Sprintf("%c %d", s.what, a.e)]++
			if (s.what == 'f' || s.what == 'p') && a.e == api.OK {
				if a.a <= last {
					t.Fatalf("room for %d, step %d: %d behind %d", most, i, a.a, last)
				}
				last = a.a
			}
			full = full || x.Room() == 0
			emptied = emptied || full && x.Room() > (most-1)/2
		}
		if !full || !emptied && most > 1 {
			t.Errorf("room for %d: the row fills it %v, and empties it %v", most, full, emptied)
		}
		kinds := []string{"f 3", "f 35", "p 3", "p 35", "x 1", "x 3", "w 10", "w 22", "w 35", "r 3", "r 35", "e 0", "e 3", "m 0", "m 3", "m 22"}
		if most > 1 {
			kinds = append(kinds, "f 0", "p 0", "x 0", "w 0", "r 0")
		}
		for _, kind := range kinds {
			if told[kind] == 0 {
				t.Errorf("room for %d: no step was told %s", most, kind)
			}
		}
	}
}

// P14.5: down a line of forks as long as may be, each end leaves all others with a parent that lives, in whichever order they end.
func TestAFamily(t *testing.T) {
	for seed := range 40 {
		dice := dice(uint64(seed))
		x := made(t, api.MaxProcs)
		for pid := 2; pid <= api.MaxProcs; pid++ {
			fork(t, x, max(1, pid-1-dice(1+seed%4)), dice(3) == 0, pid)
		}
		for x.Room() < api.MaxProcs-1 {
			pid := 2 + dice(api.MaxProcs-1)
			if x.Lives(pid) {
				tells(t, "Exit", x.Exit(pid, pid), api.OK)
			} else if _, there := x.Get(pid); there {
				reaped(t, x, pid, pid, api.OK)
			}
			if e := related(x.Dump()); e != nil {
				t.Fatal(e)
			}
		}
		is(t, x, "the first is left", api.MaxProcs-1, api.MaxProcs+1, alive(1, 0))
	}
}

// P14.6: behind an Enter whatever is called leaves it so, and all that it and its children fork begin so; the others do not.
func TestStaysIn(t *testing.T) {
	for seed := range 40 {
		dice := dice(uint64(seed))
		x := made(t, api.MaxProcs)
		fork(t, x, 1, false, 2)
		fork(t, x, 1, false, 3)
		tells(t, "Enter", x.Enter(2), api.OK)
		inside := map[int]bool{2: true}
		for range 400 {
			all := x.Dump()
			s := roll(dice, all, x.Numbers(), dice(3) > 0)
			if s.what == 'e' {
				s.what = 'm'
			}
			if a := s.onTable(x); (s.what == 'f' || s.what == 'p') && a.e == api.OK {
				inside[a.a] = inside[s.pid]
			}
			for _, p := range x.Dump() {
				if p.Cap != inside[p.Pid] {
					t.Fatalf("%v: %v, not %v", s, p, inside[p.Pid])
				}
			}
		}
	}
}
