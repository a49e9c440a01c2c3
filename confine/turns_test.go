package confine

import (
	"fmt"
	"math"
	"slices"
	"testing"

	"purlieu/api"
)

// ownPart answers a part of its own memory.
func ownPart(x api.Part) api.Part {
	x.B, x.L = slices.Clone(x.B), slices.Clone(x.L)
	for i := range x.L {
		x.L[i].Ioctls.L = slices.Clone(x.L[i].Ioctls.L)
	}
	return x
}

// copied answers a dump of its own memory, as far as anything is turned in it.
func copied(d api.Dump) api.Dump {
	d.Procs, d.Held, d.Files, d.Pipes, d.Socks, d.Inodes = slices.Clone(d.Procs), slices.Clone(d.Held), slices.Clone(d.Files), slices.Clone(d.Pipes), slices.Clone(d.Socks), slices.Clone(d.Inodes)
	for i, x := range d.Socks {
		d.Socks[i].Waits, d.Socks[i].Parts = slices.Clone(x.Waits), slices.Clone(x.Parts)
		for j, y := range x.Parts {
			d.Socks[i].Parts[j] = ownPart(y)
		}
	}
	for i, x := range d.Inodes {
		d.Inodes[i].Names, d.Inodes[i].Inos = slices.Clone(x.Names), slices.Clone(x.Inos)
	}
	return d
}

// lack answers a list without one of it.
func lack[T any](l []T, dice func(n int) int) []T {
	if len(l) == 0 {
		return nil
	}
	i := dice(len(l))
	return slices.Delete(l, i, i+1)
}

// double answers a list with one of it twice.
func double[T any](l []T, dice func(n int) int) []T {
	if len(l) == 0 {
		return nil
	}
	return slices.Insert(l, dice(len(l)+1), l[dice(len(l))])
}

// places answers where the numbers of a dump stand.
func places(d api.Dump) (l []*int) {
	for i := range d.Procs {
		x := &d.Procs[i]
		l = append(l, &x.Pid, &x.Parent, &x.Code, &x.Cwd)
	}
	for i := range d.Held {
		l = append(l, &d.Held[i].Pid, &d.Held[i].Fd, &d.Held[i].Slot.File)
	}
	for i := range d.Files {
		l = append(l, &d.Files[i].ID, &d.Files[i].Kind, &d.Files[i].Obj)
	}
	for i := range d.Pipes {
		l = append(l, &d.Pipes[i].ID)
	}
	for i := range d.Socks {
		x := &d.Socks[i]
		l = append(l, &x.ID, &x.State, &x.Peer, &x.Bound, &x.Most)
		for j := range x.Waits {
			l = append(l, &x.Waits[j])
		}
		for j := range x.Parts {
			for k := range x.Parts[j].L {
				p := &x.Parts[j].L[k]
				l = append(l, &p.File, &p.Fcntls)
			}
		}
	}
	for i := range d.Inodes {
		x := &d.Inodes[i]
		l = append(l, &x.Ino, &x.Kind, &x.Links, &x.Holds, &x.Parent, &x.Blocks)
		for j := range x.Inos {
			l = append(l, &x.Inos[j])
		}
	}
	return l
}

// flips turns something that is no number.
func flips(d *api.Dump, dice func(n int) int) {
	if n := len(d.Procs); n > 0 {
		x := &d.Procs[dice(n)]
		flag := []*bool{&x.Lives, &x.Pd, &x.Cap}[dice(3)]
		*flag = !*flag
	}
	if n := len(d.Pipes); n > 0 {
		x := &d.Pipes[dice(n)]
		flag := []*bool{&x.Reads, &x.Writes}[dice(2)]
		*flag = !*flag
		x.B += []string{"", "x"}[dice(2)]
	}
	if n := len(d.Socks); n > 0 {
		x := &d.Socks[dice(n)]
		flag := []*bool{&x.ShutR, &x.ShutW}[dice(2)]
		*flag = !*flag
		x.Parts = append(x.Parts, part(dice(5)))
	}
	if n := len(d.Inodes); n > 0 {
		x := &d.Inodes[dice(n)]
		x.Text += []string{"", "x"}[dice(2)]
		x.Names = append(x.Names, []string{"x", ""}[dice(2)])
		x.Inos = append(x.Inos, dice(5))
	}
}

// twist turns one thing of a dump.
func twist(d *api.Dump, dice func(n int) int) {
	switch dice(16) {
	case 0:
		d.Procs = double(lack(d.Procs, dice), dice)
	case 1:
		d.Held = double(lack(d.Held, dice), dice)
	case 2:
		d.Files = lack(d.Files, dice)
	case 3:
		d.Files = double(d.Files, dice)
	case 4:
		d.Pipes = double(lack(d.Pipes, dice), dice)
	case 5:
		d.Socks = lack(d.Socks, dice)
	case 6:
		d.Socks = double(d.Socks, dice)
	case 7:
		d.Inodes = lack(d.Inodes, dice)
	case 8:
		d.Inodes = double(d.Inodes, dice)
	case 9:
		flips(d, dice)
	default:
		if l := places(*d); len(l) > 0 {
			at := l[dice(len(l))]
			*at = []int{*at + 1, *at - 1, *at + 2, 0, -1, 1 + dice(9), 1 + dice(9), 1 + dice(9), 99, math.MinInt, math.MaxInt}[dice(11)]
		}
	}
}

// twisted answers a moment with some things turned in what was, or is.
func (m moment) twisted(dice func(n int) int) moment {
	m.was, m.now = copied(m.was), copied(m.now)
	d := []*api.Dump{&m.was, &m.now}[dice(2)]
	for range 1 + dice(3) {
		twist(d, dice)
	}
	return m
}

// scattered answers a dump of small numbers, that nothing keeps together.
func scattered(dice func(n int) int) (d api.Dump) {
	small, many := 2+dice(7), 1+dice(3)
	n := func() int { return dice(small) - dice(20)/19 }
	list := func() (l []int) {
		for range dice(4) {
			l = append(l, n())
		}
		return l
	}
	for range dice(5) * many {
		d.Procs = append(d.Procs, api.Proc{Pid: n(), Parent: n(), Lives: dice(3) > 0, Code: dice(2), Pd: dice(4) == 0, Cap: dice(2) == 0, Cwd: n()})
	}
	for range dice(6) * many {
		d.Held = append(d.Held, api.Held{Pid: n(), Fd: n(), Slot: api.Slot{File: n()}})
	}
	for range dice(7) * many {
		d.Files = append(d.Files, api.File{ID: n(), Kind: []int{api.KFile, api.KDir, api.KDir, api.KSock, api.KSock, api.KProc, api.KProc, api.KPipe, dice(11) - 1}[dice(9)], Obj: n()})
	}
	for range dice(5) * many {
		d.Pipes = append(d.Pipes, api.Pipe{ID: n(), Reads: dice(2) == 0, Writes: dice(2) == 0, B: "xyz"[:dice(4)]})
	}
	for range dice(7) * many {
		x := api.Sock{ID: n(), State: dice(3), Peer: n() * dice(2), Bound: n() * dice(2), Most: dice(3), ShutR: dice(2) == 0, ShutW: dice(2) == 0}
		if dice(3) == 0 {
			x.Waits = list()
		}
		for range dice(3) {
			x.Parts = append(x.Parts, part(list()...))
		}
		d.Socks = append(d.Socks, x)
	}
	for range dice(7) * many {
		d.Inodes = append(d.Inodes, api.Inode{Ino: n(), Kind: []int{api.KDir, api.KDir, dice(6)}[dice(3)], Links: dice(2), Text: "xyz"[:dice(3)], Names: []string{"a", "b"}[:dice(3)], Inos: list()})
	}
	return d
}

// P28.1 to P28.4, P28.7: dumps of small numbers, the same ones often, against the plain words; and what they have become with some things turned.
func TestScattered(t *testing.T) {
	t.Parallel()
	dice, count := dice(3), map[string]int{}
	for range 40000 {
		m := moment{was: scattered(dice)}
		m.now, m.s.Pid = m.was, dice(6)-dice(20)/19
		if dice(4) == 0 {
			m.now = scattered(dice)
		}
		m = m.twisted(dice)
		effects, come, outside := m.holds(t, m.s.Pid)
		m.counts(effects, come, outside, count)
		m.more(t, m.s.Pid, come, dice)
		count[fmt.Sprint("from ", m.s.Pid)]++
		if len(effects) == 0 {
			count["no effects"]++
		}
		if len(effects) > len(outside) && len(outside) > 0 {
			count["some outside"]++
		}
		if len(come) == 1 {
			count["itself alone"]++
		}
		if len(come) > 12 {
			count["far"]++
		}
	}
	often(t, count, 50, "all kinds", "several 5", "far", "from -1")
	often(t, count, 500, "1 changed", "1 gone", "5 changed", "5 gone", "6 changed", "6 gone", "7 changed", "7 gone", "several 1", "several 6", "several 7", "1 outside", "5 outside", "6 outside", "7 outside", "from 0", "no effects", "some outside", "itself alone")
}

// spare answers a list with one more behind its end, which is in its spare room.
func spare[T any](l []T, x T) []T { return append(slices.Clone(l), x)[:len(l)] }

// roomy answers a dump whose lists have spare room with something in it.
func roomy(d api.Dump) api.Dump {
	d = copied(d)
	d.Procs, d.Held, d.Parks, d.Files = spare(d.Procs, api.Proc{Pid: 9}), spare(d.Held, api.Held{Pid: 9}), spare(d.Parks, api.Park{Pid: 9}), spare(d.Files, api.File{ID: 9})
	d.Pipes, d.Socks, d.Inodes = spare(d.Pipes, api.Pipe{ID: 9}), spare(d.Socks, api.Sock{ID: 9}), spare(d.Inodes, api.Inode{Ino: 9})
	for i, x := range d.Socks {
		d.Socks[i].Waits, d.Socks[i].Parts = spare(x.Waits, 9), spare(x.Parts, part(9))
		for j, y := range x.Parts {
			d.Socks[i].Parts[j].L = spare(y.L, api.Passed{File: 9})
		}
	}
	for i, x := range d.Inodes {
		d.Inodes[i].Names, d.Inodes[i].Inos = spare(x.Names, "z"), spare(x.Inos, 9)
	}
	return d
}

// whole writes down all of a dump, with one more of each list.
func whole(d api.Dump) string {
	return fmt.Sprint(d.Procs[:len(d.Procs)+1], d.Held[:len(d.Held)+1], d.Parks[:len(d.Parks)+1], d.Files[:len(d.Files)+1], d.Pipes[:len(d.Pipes)+1], d.Socks[:len(d.Socks)+1], d.Inodes[:len(d.Inodes)+1], d.Next)
}

// behind writes down the spare room of the lists within a dump's lists.
func behind(d api.Dump) (text string) {
	for _, x := range d.Socks {
		text += fmt.Sprint(x.Waits[:len(x.Waits)+1], x.Parts[:len(x.Parts)+1])
		for _, y := range x.Parts {
			text += fmt.Sprint(y.L[:len(y.L)+1])
		}
	}
	for _, x := range d.Inodes {
		text += fmt.Sprint(x.Names[:len(x.Names)+1], x.Inos[:len(x.Inos)+1])
	}
	return text
}

// P28.2 to P28.4: what is handed in is not changed, not even in the spare room of its lists; what is told is new memory, and is told again.
func TestMemory(t *testing.T) {
	dice := dice(9)
	for range 4000 {
		was := roomy(scattered(dice))
		now := roomy(moment{now: was, was: was}.twisted(dice).now)
		pid := dice(5)
		text := whole(was) + behind(was) + whole(now) + behind(now)
		l := [][]api.Obj{Effects(was, now), Authority(was, pid), Outside(was, now, pid)}
		told := fmt.Sprint(l)
		for _, x := range l {
			x = x[:cap(x)]
			for i := range x {
				if x[i].Kind == 777 {
					t.Fatal("a list is another one, too")
				}
				x[i] = api.Obj{Kind: 777}
			}
		}
		if again := fmt.Sprint([][]api.Obj{Effects(was, now), Authority(was, pid), Outside(was, now, pid)}); again != told {
			t.Fatalf("%s, then %s", told, again)
		}
		if after := whole(was) + behind(was) + whole(now) + behind(now); after != text {
			t.Fatalf("%s became %s", text, after)
		}
	}
}

// P28.3: long chains and wide directories are gone to their ends.
func TestFar(t *testing.T) {
	const n = 200000
	d := api.Dump{Held: held(1, 1, 2), Files: files(api.KDir, 1, api.KSock, 1)}
	for i := 1; i <= n; i++ {
		d.Inodes = append(d.Inodes, lies(i, i+1, 1))
		d.Socks = append(d.Socks, api.Sock{ID: i, Peer: i%n + 1, Waits: []int{1}})
	}
	got := Authority(d, 1)
	if len(got) != n+1+n+1 || got[n] != (api.Obj{Kind: api.KFile, ID: n + 1}) || got[n+1] != (api.Obj{Kind: api.KSock, ID: 1}) || !slices.IsSortedFunc(got, func(a, b api.Obj) int { return (a.Kind-b.Kind)*4*n + a.ID - b.ID }) {
		t.Error(len(got))
	}
	if e := Outside(d, api.Dump{}, 1); len(e) > 0 {
		t.Error(e)
	}
	if e := Outside(d, api.Dump{}, 2); len(e) != 2*n {
		t.Error(len(e))
	}
}
