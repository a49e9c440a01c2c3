package graph

import (
	"fmt"
	"math"
	"reflect"
	"slices"
	"sync"
	"testing"

	"purlieu/api"
	"purlieu/slots"
)

// same tells whether two rows of grants are alike; of lists nil and empty are.
func same(a, b []api.Grant) bool {
	list := func(x, y api.List) bool { return x.All == y.All && slices.Equal(x.L, y.L) }
	slot := func(x, y api.Slot) bool {
		return x.File == y.File && x.Rights == y.Rights && x.Fcntls == y.Fcntls && list(x.Ioctls, y.Ioctls)
	}
	return slices.EqualFunc(a, b, func(x, y api.Grant) bool {
		return x.Kind == y.Kind && x.Held.Pid == y.Held.Pid && x.Held.Fd == y.Held.Fd && slot(x.Held.Slot, y.Held.Slot) && slot(x.From, y.From)
	})
}

// moment is a step, all there was and is, and what came of it.
type moment struct {
	was, now api.Dump
	s        api.Step
	o        api.Out
}

// holds holds what is told of a moment against the plain words, and answers it.
func (m moment) holds(t *testing.T) []api.Grant {
	t.Helper()
	got, want := Grants(m.was, m.now, m.s, m.o), plain(m.was, m.now, m.s, m.o)
	if !same(got, want) {
		t.Fatalf("%v:\n%v\nnot\n%v", m, got, want)
	}
	if r := Asked(m.was, m.s); !alike(r, wants(m.was, m.s)) {
		t.Fatalf("%v: asked %v", m, r)
	}
	return got
}

// alike tells whether two requests are, nil and empty lists, too.
func alike(a, b api.Req) bool {
	return a.No == b.No && a.A == b.A && a.S == b.S && a.T == b.T && slices.Equal(a.L, b.L)
}

// mode tells whether the caller is in capability mode.
func (m moment) mode() bool {
	p, _ := process(m.was, m.s.Pid)
	return p.Cap
}

// lives tells whether the caller is still there.
func (m moment) lives() bool {
	p, _ := process(m.now, m.s.Pid)
	return p.Lives
}

// news answers how many descriptors are to be new of the caller, and of another process, by what was asked for and what came.
func (m moment) news() (int, int) {
	r := wants(m.was, m.s)
	if m.o.Mark == api.Idle || m.o.Mark == api.Parked || m.o.Res.Err != api.OK || !m.lives() {
		return 0, 0
	}
	held := 0
	for _, x := range m.was.Held {
		if x.Pid == m.s.Pid {
			held++
		}
	}
	switch r.No {
	case fork:
		return 0, held
	case pdfork:
		return 1, held
	case dup2:
		return min(max(r.A[0]-r.A[1], r.A[1]-r.A[0]), 1), 0
	case fcntl:
		return max(1-r.A[1], 0), 0
	case dup, open, openat, sock, accept:
		return 1, 0
	case pipe, pair:
		return 2, 0
	case recv:
		return len(m.o.Res.L), 0
	}
	return 0, 0
}

// lessens holds one grant of a step of a script to P27.3.
func (m moment) lessens(t *testing.T, g api.Grant) {
	t.Helper()
	r := wants(m.was, m.s)
	switch {
	case g.Kind == api.GrantNone:
		t.Fatal("from nowhere", m, g)
	case g.Kind == api.GrantFresh && !reflect.DeepEqual(g.Held.Slot, slots.Full(g.Held.Slot.File)):
		t.Fatal("fresh with less", m, g)
	case g.Kind == api.GrantFresh && m.mode() && (r.No == open || r.No == openat):
		t.Fatal("opened in capability mode", m, g)
	case g.Kind != api.GrantFresh && !(Within(g.Held.Slot, g.From) && less(g.Held.Slot, g.From)):
		t.Fatal("beyond", m, g)
	case g.Kind != api.GrantFresh && g.Kind != api.GrantDir && g.Held.Slot.File != g.From.File:
		t.Fatal("another open file", m, g)
	}
}

// counts counts of which kinds the descriptors are, of which call, and how.
func (m moment) counts(l []api.Grant, count map[string]int) {
	r := wants(m.was, m.s)
	for _, g := range l {
		how := ""
		if m.mode() {
			how = " in capability mode"
		}
		if g.Kind != api.GrantOwn {
			count[fmt.Sprint(r.No, " to ", g.Kind, how)]++
			if m.o.Mark == api.Woken {
				count[fmt.Sprint(r.No, " woken")]++
			}
		}
		_, was := there(m.was, g.Held.Pid, g.Held.Fd)
		if g.Kind != api.GrantOwn && was {
			count[fmt.Sprint(r.No, " where there was one")]++
		}
		if g.Kind != api.GrantFresh && g.From.Rights != api.CapAll {
			count[fmt.Sprint(g.Kind, " of a limited one")]++
		}
		if g.Kind != api.GrantFresh && !less(g.From, g.Held.Slot) {
			count[fmt.Sprint(g.Kind, " with less")]++
		}
	}
	if r.No == recv && len(m.o.Res.L) > 1 {
		count["several received"]++
	}
	if r.No == recv && m.o.Res.Err == api.OK && len(m.o.Res.L) < len(waiting(m.was, m.s.Pid, r.A[0])) {
		count["fewer received"]++
	}
	if r.No == recv && m.o.Res.Err != api.OK && len(waiting(m.was, m.s.Pid, r.A[0])) > 0 {
		count["not received"]++
	}
	if r.No == dup2 && r.A[0] == r.A[1] && m.o.Res.Err == api.OK {
		count["onto itself"]++
	}
	if !alike(r, m.s.Req) {
		count["asks in vain"]++
	}
	count[fmt.Sprint("mark ", m.o.Mark)]++
	if m.o.Res.Err != api.OK {
		count["errors"]++
	}
}

// granted are the calls by which descriptors come, by each kind and mode.
var granted = []string{
	"2 to 2", "2 to 2 in capability mode", "53 to 2", "53 to 2 in capability mode", "53 to 6", "53 to 6 in capability mode",
	"17 to 3", "17 to 3 in capability mode", "18 to 3", "18 to 3 in capability mode", "20 to 3", "20 to 3 in capability mode", "18 where there was one",
	"33 to 4", "33 to 4 in capability mode", "33 to 6", "5 to 6", "19 to 6", "19 to 6 in capability mode",
	"41 to 6", "41 to 6 in capability mode", "42 to 6", "42 to 6 in capability mode", "48 to 6", "48 to 6 in capability mode", "48 woken",
	"51 to 5", "51 to 5 in capability mode", "51 woken", "several received", "fewer received", "not received", "onto itself", "asks in vain",
	"1 of a limited one", "2 of a limited one", "3 of a limited one", "4 of a limited one", "5 of a limited one", "1 with less",
	"mark 0", "mark 1", "mark 2", "mark 3", "errors",
}

// often tells what didn't come so often.
func often(t *testing.T, count map[string]int, n int, l ...string) {
	t.Helper()
	for _, what := range l {
		if count[what] < n {
			t.Errorf("%d times in all: %s", count[what], what)
		}
	}
}

// copied answers a dump of its own memory, as far as anything is turned in it.
func copied(d api.Dump) api.Dump {
	d.Procs, d.Held, d.Parks, d.Files, d.Socks = slices.Clone(d.Procs), slices.Clone(d.Held), slices.Clone(d.Parks), slices.Clone(d.Files), slices.Clone(d.Socks)
	for i, x := range d.Held {
		d.Held[i].Slot.Ioctls.L = slices.Clone(x.Slot.Ioctls.L)
	}
	for i, x := range d.Parks {
		d.Parks[i].Req.L = slices.Clone(x.Req.L)
	}
	for i, x := range d.Socks {
		d.Socks[i].Parts = slices.Clone(x.Parts)
		for j, part := range x.Parts {
			d.Socks[i].Parts[j] = api.Part{B: slices.Clone(part.B), L: slices.Clone(part.L)}
			for k, p := range part.L {
				d.Socks[i].Parts[j].L[k].Ioctls.L = slices.Clone(p.Ioctls.L)
			}
		}
	}
	return d
}

// lack answers a list without one of it.
func lack[T any](l []T, dice func(n int) int) []T {
	if len(l) == 0 {
		return nil
	}
	i := dice(len(l))
	return slices.Delete(l, i, i+1)
}

// double answers a list with one of it twice.
func double[T any](l []T, dice func(n int) int) []T {
	if len(l) == 0 {
		return nil
	}
	return slices.Insert(l, dice(len(l)+1), l[dice(len(l))])
}

// places answers where the numbers of a moment stand that Grants looks at.
func (m *moment) places() []*int {
	l := []*int{&m.s.Pid, &m.s.Req.No, &m.s.Req.A[0], &m.s.Req.A[1]}
	for i := range m.was.Procs {
		l = append(l, &m.was.Procs[i].Pid)
	}
	for i := range m.was.Held {
		l = append(l, &m.was.Held[i].Pid, &m.was.Held[i].Fd, &m.was.Held[i].Slot.File)
	}
	for i := range m.now.Held {
		l = append(l, &m.now.Held[i].Pid, &m.now.Held[i].Fd, &m.now.Held[i].Slot.File)
	}
	for i := range m.was.Files {
		l = append(l, &m.was.Files[i].ID, &m.was.Files[i].Kind, &m.was.Files[i].Obj)
	}
	for i := range m.was.Socks {
		l = append(l, &m.was.Socks[i].ID)
	}
	for i := range m.was.Parks {
		l = append(l, &m.was.Parks[i].Pid, &m.was.Parks[i].Req.No, &m.was.Parks[i].Req.A[0])
	}
	for i := range m.o.Res.L {
		l = append(l, &m.o.Res.L[i])
	}
	return l
}

// twisted answers a moment with one thing turned.
func (m moment) twisted(dice func(n int) int) moment {
	m.was, m.now, m.o.Res.L = copied(m.was), copied(m.now), slices.Clone(m.o.Res.L)
	switch dice(12) {
	case 0:
		m.was.Procs = lack(m.was.Procs, dice)
	case 1:
		m.was.Procs = double(m.was.Procs, dice)
		for i := range m.was.Procs {
			m.was.Procs[i].Cap = dice(2) == 0
		}
	case 2:
		m.was.Held = lack(m.was.Held, dice)
	case 3:
		m.was.Held = double(m.was.Held, dice)
		for i := range m.was.Held {
			m.was.Held[i].Slot.Rights ^= api.Rights(dice(2))
		}
	case 4:
		m.was.Files = double(lack(m.was.Files, dice), dice)
	case 5:
		m.was.Socks = double(m.was.Socks, dice)
		for i, x := range m.was.Socks {
			m.was.Socks[i].Parts = lack(x.Parts, dice)
		}
	case 6:
		m.o.Res.Err = api.Errno(dice(3) - 1)
	case 7:
		m.o.Res.L = double(lack(m.o.Res.L, dice), dice)
	case 8:
		m.was.Parks = double(m.was.Parks, dice)
	case 9:
		m.s.Req.No = []int{dup, dup2, fcntl, recv, openat, open, pipe, accept, getpid}[dice(9)]
	default:
		l := m.places()
		at := l[dice(len(l))]
		*at = []int{*at + 1, *at - 1, *at + 2, 0, -1, 1 + dice(9), 1 + dice(9), 99, api.AtCwd, math.MinInt, math.MaxInt}[dice(11)]
	}
	return m
}

// P27.1 to P27.3: in every step of scripts of every sort each descriptor is from somewhere, and within that, or fresh; what is told is as the plain words have it, of what there was and is with some things turned, too.
func TestScripts(t *testing.T) {
	var both sync.Mutex
	count, turned := map[string]int{}, map[string]int{}
	script := func(t *testing.T, seed int) {
		dice := dice(uint64(seed))
		p := begins(limits(dice), dice)
		begin := opening(dice)
		seen, twists := map[string]int{}, map[string]int{}
		for i := range 300 {
			m := moment{was: p.now}
			if m.s = p.step(); i < len(begin) {
				m.s = begin[i]
			}
			m.o = p.does(m.s)
			m.now = p.now
			l := m.holds(t)
			m.counts(l, seen)
			fresh, others := 0, 0
			for _, g := range l {
				m.lessens(t, g)
				if g.Kind != api.GrantOwn && g.Held.Pid == m.s.Pid {
					fresh++
				} else if g.Kind != api.GrantOwn {
					others++
				}
			}
			if n, others2 := m.news(); n != fresh || others != others2 {
				t.Fatal(seed, i, m.s, m.o, fresh, others, "new, not", n, others2)
			}
			if i%3 == 0 {
				x := m.twisted(dice)
				x.counts(x.holds(t), twists)
				x = x.twisted(dice)
				x.counts(x.holds(t), twists)
			}
		}
		both.Lock()
		defer both.Unlock()
		for what, n := range seen {
			count[what] += n
		}
		for what, n := range twists {
			turned[what] += n
		}
	}
	t.Run("scripts", func(t *testing.T) {
		for part := range 8 {
			t.Run("", func(t *testing.T) {
				t.Parallel()
				for i := range 250 {
					script(t, part*1000+i)
				}
			})
		}
	})
	often(t, count, 25, granted...)
	often(t, turned, 100, "2 to 2", "17 to 3", "17 to 0", "18 to 3", "18 to 0", "20 to 3", "20 to 0", "33 to 4", "33 to 0", "33 to 6", "51 to 5", "51 to 0", "5 to 6", "14 to 0", "53 to 6")
}

// scattered answers a moment of small numbers, that nothing keeps together.
func scattered(dice func(n int) int) (m moment) {
	small := 2 + dice(4)
	n := func() int { return dice(small) - dice(20)/19 }
	list := func() (l []int) {
		for range dice(4) {
			l = append(l, n())
		}
		return l
	}
	slot := func() api.Slot {
		s := slots.Full(n())
		if dice(2) == 0 {
			s = api.Slot{File: s.File, Rights: api.Rights(n()), Ioctls: api.List{L: list()}, Fcntls: n()}
		}
		return s
	}
	request := func() api.Req {
		r := api.Req{No: []int{dup, dup2, dup2, fcntl, recv, recv, openat, openat, open, pipe, fork, pdfork, dice(66)}[dice(13)], S: "a"}
		for i := range r.A {
			r.A[i] = n()
		}
		if dice(12) == 0 {
			r.A[0] = api.AtCwd
		}
		r.L = list()
		return r
	}
	held := func() (l []api.Held) {
		for range dice(8) {
			l = append(l, api.Held{Pid: n(), Fd: n(), Slot: slot()})
		}
		return l
	}
	m.was.Held, m.now.Held = held(), held()
	for range dice(5) {
		m.was.Procs = append(m.was.Procs, api.Proc{Pid: n(), Lives: dice(3) > 0, Cap: dice(2) == 0})
	}
	for range dice(6) {
		m.was.Files = append(m.was.Files, api.File{ID: n(), Kind: []int{api.KSock, api.KSock, api.KSock, dice(8)}[dice(4)], Obj: n()})
	}
	for range dice(6) {
		x := api.Sock{ID: n()}
		for range dice(3) {
			var part api.Part
			for range dice(5) {
				s := slot()
				part.L = append(part.L, api.Passed{File: s.File, Rights: s.Rights, Ioctls: s.Ioctls, Fcntls: s.Fcntls})
			}
			x.Parts = append(x.Parts, part)
		}
		m.was.Socks = append(m.was.Socks, x)
	}
	for range dice(3) {
		m.was.Parks = append(m.was.Parks, api.Park{Pid: n(), Req: request()})
	}
	m.s = api.Step{Pid: n(), Req: request()}
	m.o = api.Out{Mark: dice(5), Res: api.Res{Val: n(), Err: api.Errno(dice(5) / 4 * dice(90)), L: list()}}
	return m
}

// P27.1, P27.2: moments of small numbers, the same ones often, against the plain words.
func TestScattered(t *testing.T) {
	t.Parallel()
	dice, count := dice(3), map[string]int{}
	for range 120000 {
		m := scattered(dice)
		l := m.holds(t)
		m.counts(l, count)
		for _, g := range l {
			if Within(g.Held.Slot, g.From) != less(g.Held.Slot, g.From) {
				t.Fatal(g)
			}
		}
	}
	often(t, count, 50, "17 to 0", "17 to 2", "17 to 3", "17 to 3 in capability mode", "18 to 0", "18 to 3", "18 where there was one", "20 to 0", "20 to 3", "51 to 0", "51 to 2", "51 to 5", "51 to 5 in capability mode", "33 to 0", "33 to 4", "33 to 4 in capability mode", "33 to 6", "5 to 6", "19 to 6 in capability mode", "53 to 2", "53 to 6", "2 to 2", "asks in vain")
}

// P27.1 to P27.3: what is handed in is not changed, not even in the spare room of its lists; what is told is new memory, each list by itself, and is told again.
func TestMemory(t *testing.T) {
	dice := dice(9)
	for range 6000 {
		m := scattered(dice)
		whole := moment{copied(m.was), copied(m.now), m.s, m.o}
		whole.was.Held, whole.now.Held, whole.was.Parks = append(whole.was.Held, at(7, 7)), append(whole.now.Held, at(7, 7)), append(whole.was.Parks, api.Park{Pid: 7})
		whole.s.Req.L, whole.o.Res.L = append(slices.Clone(m.s.Req.L), 7), append(slices.Clone(m.o.Res.L), 7)
		was := fmt.Sprint(whole)
		m = whole
		m.was.Held, m.now.Held, m.was.Parks = m.was.Held[:len(m.was.Held)-1], m.now.Held[:len(m.now.Held)-1], m.was.Parks[:len(m.was.Parks)-1]
		m.s.Req.L, m.o.Res.L = m.s.Req.L[:len(m.s.Req.L)-1], m.o.Res.L[:len(m.o.Res.L)-1]
		l, r := Grants(m.was, m.now, m.s, m.o), Asked(m.was, m.s)
		told, asked := fmt.Sprint(l), fmt.Sprint(r)
		spoils(l)
		for i := range r.L {
			r.L[i] = 777
		}
		_, _ = append(r.L, 777), append(l, api.Grant{Kind: 777})
		if again := Grants(m.was, m.now, m.s, m.o); fmt.Sprint(again) != told || fmt.Sprint(Asked(m.was, m.s)) != asked {
			t.Fatalf("%s, then %v", told, again)
		}
		for _, g := range Grants(m.was, m.now, m.s, m.o) {
			Within(g.Held.Slot, g.From)
		}
		if fmt.Sprint(whole) != was {
			t.Fatalf("%s became %v", was, whole)
		}
	}
}

// spoils writes over each list of an answer, its spare room, too, one by one, and sees that no other one changes.
func spoils(l []api.Grant) {
	var lists [][]int
	for _, g := range l {
		lists = append(lists, g.Held.Slot.Ioctls.L, g.From.Ioctls.L)
	}
	for i, x := range lists {
		x = x[:cap(x)]
		for j := range x {
			if x[j] == 777 {
				panic(fmt.Sprint("list ", i, " is another one, too"))
			}
			x[j] = 777
		}
	}
}
