package apart

import (
	"fmt"
	"math"
	"slices"
	"testing"

	"purlieu/api"
)

// ownPart answers a part of its own memory.
func ownPart(x api.Part) api.Part {
	x.B, x.L = slices.Clone(x.B), slices.Clone(x.L)
	for i := range x.L {
		x.L[i].Ioctls.L = slices.Clone(x.L[i].Ioctls.L)
	}
	return x
}

// copied answers a dump of its own memory, as far as anything is turned in it.
func copied(d api.Dump) api.Dump {
	d.Procs, d.Held, d.Parks, d.Files, d.Pipes, d.Socks, d.Inodes = slices.Clone(d.Procs), slices.Clone(d.Held), slices.Clone(d.Parks), slices.Clone(d.Files), slices.Clone(d.Pipes), slices.Clone(d.Socks), slices.Clone(d.Inodes)
	for i, x := range d.Held {
		d.Held[i].Slot.Ioctls.L = slices.Clone(x.Slot.Ioctls.L)
	}
	for i, x := range d.Parks {
		d.Parks[i].Req.L = slices.Clone(x.Req.L)
	}
	for i, x := range d.Socks {
		d.Socks[i].Waits, d.Socks[i].Parts = slices.Clone(x.Waits), slices.Clone(x.Parts)
		for j, y := range x.Parts {
			d.Socks[i].Parts[j] = ownPart(y)
		}
	}
	for i, x := range d.Inodes {
		d.Inodes[i].Names, d.Inodes[i].Inos = slices.Clone(x.Names), slices.Clone(x.Inos)
	}
	return d
}

// lack answers a list without one of it.
func lack[T any](l []T, dice func(n int) int) []T {
	if len(l) == 0 {
		return nil
	}
	i := dice(len(l))
	return slices.Delete(l, i, i+1)
}

// double answers a list with one of it twice.
func double[T any](l []T, dice func(n int) int) []T {
	if len(l) == 0 {
		return nil
	}
	return slices.Insert(l, dice(len(l)+1), l[dice(len(l))])
}

// places answers where the numbers of a dump stand.
func places(d *api.Dump) (l []*int) {
	for i := range d.Procs {
		x := &d.Procs[i]
		l = append(l, &x.Pid, &x.Parent, &x.Code, &x.Cwd)
	}
	for i := range d.Held {
		x := &d.Held[i]
		l = append(l, &x.Pid, &x.Fd, &x.Slot.File, &x.Slot.Fcntls)
		for j := range x.Slot.Ioctls.L {
			l = append(l, &x.Slot.Ioctls.L[j])
		}
	}
	for i := range d.Parks {
		x := &d.Parks[i]
		l = append(l, &x.Pid, &x.Req.No, &x.Req.A[0], &x.Req.A[4])
		for j := range x.Req.L {
			l = append(l, &x.Req.L[j])
		}
	}
	for i := range d.Files {
		x := &d.Files[i]
		l = append(l, &x.ID, &x.Kind, &x.Obj, &x.Off, &x.Flags, &x.Refs)
	}
	for i := range d.Pipes {
		l = append(l, &d.Pipes[i].ID)
	}
	for i := range d.Socks {
		x := &d.Socks[i]
		l = append(l, &x.ID, &x.State, &x.Peer, &x.Bound, &x.Most)
		for j := range x.Waits {
			l = append(l, &x.Waits[j])
		}
		for j := range x.Parts {
			for k := range x.Parts[j].L {
				p := &x.Parts[j].L[k]
				l = append(l, &p.File, &p.Fcntls)
			}
		}
	}
	for i := range d.Inodes {
		x := &d.Inodes[i]
		l = append(l, &x.Ino, &x.Kind, &x.Links, &x.Holds, &x.Parent, &x.Blocks)
		for j := range x.Inos {
			l = append(l, &x.Inos[j])
		}
	}
	return append(l, &d.Next[0], &d.Next[1], &d.Next[2], &d.Next[3], &d.Next[4])
}

// flips turns something that is no number.
func flips(d *api.Dump, dice func(n int) int) {
	if n := len(d.Procs); n > 0 && dice(3) == 0 {
		x := &d.Procs[dice(n)]
		flag := []*bool{&x.Lives, &x.Pd, &x.Cap}[dice(3)]
		*flag = !*flag
	}
	if n := len(d.Held); n > 0 && dice(3) == 0 {
		x := &d.Held[dice(n)].Slot
		x.Rights ^= 1 << dice(32)
		x.Ioctls.All = x.Ioctls.All != (dice(2) == 0)
	}
	if n := len(d.Parks); n > 0 && dice(3) == 0 {
		x := &d.Parks[dice(n)].Req
		x.S += []string{"", "x"}[dice(2)]
		x.T += []string{"", "x"}[dice(2)]
	}
	if n := len(d.Pipes); n > 0 && dice(3) == 0 {
		x := &d.Pipes[dice(n)]
		flag := []*bool{&x.Reads, &x.Writes}[dice(2)]
		*flag = !*flag
		x.B += []string{"", "x"}[dice(2)]
	}
	if n := len(d.Socks); n > 0 && dice(3) == 0 {
		x := &d.Socks[dice(n)]
		flag := []*bool{&x.ShutR, &x.ShutW}[dice(2)]
		*flag = !*flag
		x.Parts = append(x.Parts, part(dice(9)))
	}
	if n := len(d.Inodes); n > 0 && dice(3) == 0 {
		x := &d.Inodes[dice(n)]
		x.Text += []string{"", "x"}[dice(2)]
		x.Names = append(x.Names, []string{"x", ""}[dice(2)])
		x.Inos = append(x.Inos, dice(9))
	}
}

// twist turns one thing of a dump.
func twist(d *api.Dump, dice func(n int) int) {
	switch dice(22) {
	case 12, 13: // where a process is
		for i := range d.Inodes {
			if n := len(d.Procs); n > 0 && d.Inodes[i].Ino == d.Procs[dice(n)].Cwd {
				d.Inodes[i].Holds += dice(2)
				d.Inodes[i].Links -= dice(2)
				break
			}
		}
	case 0:
		d.Procs = double(d.Procs, dice)
	case 1:
		d.Procs = lack(d.Procs, dice)
	case 2:
		d.Held = double(lack(d.Held, dice), dice)
	case 3:
		d.Parks = double(lack(d.Parks, dice), dice)
	case 4:
		d.Files = lack(d.Files, dice)
	case 5:
		d.Files = double(d.Files, dice)
	case 6:
		d.Pipes = double(lack(d.Pipes, dice), dice)
	case 7:
		d.Socks = lack(d.Socks, dice)
	case 8:
		d.Socks = double(d.Socks, dice)
	case 9:
		d.Inodes = lack(d.Inodes, dice)
	case 10:
		d.Inodes = double(d.Inodes, dice)
	case 11, 14:
		flips(d, dice)
	default:
		l := places(d)
		at := l[dice(len(l))]
		*at = []int{*at + 1, *at - 1, *at + 2, 0, -1, 1 + dice(9), 1 + dice(9), 1 + dice(9), 99, math.MinInt, math.MaxInt}[dice(11)]
	}
}

// scattered answers a dump of small numbers, that nothing keeps together.
func scattered(dice func(n int) int) (d api.Dump) {
	small, many := 2+dice(7), 1+dice(3)
	n := func() int { return dice(small) - dice(20)/19 }
	list := func() (l []int) {
		for range dice(4) {
			l = append(l, n())
		}
		return l
	}
	for i := range small + dice(4) {
		pid := i
		if dice(6) == 0 {
			pid = n()
		}
		d.Procs = slices.Insert(d.Procs, dice(i+1), api.Proc{Pid: pid, Parent: n(), Lives: dice(12) > 0, Code: dice(2), Pd: dice(4) == 0, Cap: dice(12) > 0, Cwd: n()})
	}
	for range dice(6) * many {
		d.Held = append(d.Held, api.Held{Pid: n(), Fd: n(), Slot: api.Slot{File: n(), Ioctls: api.List{L: list()}}})
	}
	for range dice(3) {
		d.Parks = append(d.Parks, api.Park{Pid: n(), Req: api.Req{No: n(), L: list()}})
	}
	for range dice(7) * many {
		d.Files = append(d.Files, api.File{ID: n(), Kind: []int{api.KFile, api.KDir, api.KDir, api.KSock, api.KSock, api.KProc, api.KPipe, api.KPipe, api.KPipe, api.KPipe, dice(11) - 1}[dice(11)], Obj: n()})
	}
	for range dice(5) * many {
		d.Pipes = append(d.Pipes, api.Pipe{ID: n(), Reads: dice(2) == 0, Writes: dice(2) == 0, B: "xyz"[:dice(4)]})
	}
	for range dice(6) * many {
		x := api.Sock{ID: n(), State: dice(3), Peer: n() * dice(2), Bound: n() * dice(2), Most: dice(3), ShutR: dice(2) == 0, ShutW: dice(2) == 0}
		if dice(3) == 0 {
			x.Waits = list()
		}
		for range dice(3) {
			x.Parts = append(x.Parts, part(list()...))
		}
		d.Socks = append(d.Socks, x)
	}
	for range dice(7) * many {
		d.Inodes = append(d.Inodes, api.Inode{Ino: n(), Kind: []int{api.KDir, api.KDir, dice(6)}[dice(3)], Links: dice(2), Holds: dice(3), Text: "xyz"[:dice(3)], Names: []string{"a", "b"}[:dice(3)], Inos: list(), Blocks: dice(3)})
	}
	return d
}

// P29.1 to P29.4: dumps of small numbers, the same ones often, against the plain words; and what they have become with some things turned.
func TestScattered(t *testing.T) {
	t.Parallel()
	dice, count := dice(3), map[string]int{}
	for range 30000 {
		d := scattered(dice)
		pids := []int{}
		for range dice(4) {
			pids = append(pids, d.Procs[dice(len(d.Procs))].Pid+dice(20)/19)
		}
		if dice(3) > 0 {
			pids = closing(d, pids)
		}
		x := told(t, "scattered", d, pids)
		x.counts(d, pids, count)
		turned := copied(d)
		for range dice(3) {
			twist(&turned, dice)
		}
		y := told(t, "turned", turned, pids)
		why := alike(t, "turned", d, turned, pids, x, y)
		count["turned "+why]++
		if why == "" && fmt.Sprint(d) != fmt.Sprint(turned) {
			count["alike, but not the same"]++
		}
	}
	often(t, count, 10, append(everything(), "it waits elsewhere", "others' calls that wait", "alike, but not the same", "turned ", "turned parts", "turned rooms", "turned rests", "turned sealed in neither", "turned sealed in one")...)
}
