package proccalls

import (
	"fmt"
	"math"
	"testing"

	"purlieu/api"
	"purlieu/fscalls"
	"purlieu/world"
)

// youngEnds and secondEnds are what is behind the end of a process in a scene, with %d for the code.
const (
	youngEnds  = "0 -pid5<2@2 -5.0:dir1,0 -5.1:pipe1,0 -5.2:pipe1,1 -dir1,0x6 -pipe1,0x6 -pipe1,1x6 -i2:1,3 +pid5<2!%d +dir1,0x5 +pipe1,0x5 +pipe1,1x5 +i2:1,2"
	secondEnds = "0 -pid2<1@2d -pid5<2@2 -pid6<2!66 -2.0:dir1,0 -2.1:pipe1,0 -2.2:pipe1,1 -dir1,0x6 -pipe1,0x6 -pipe1,1x6 -i2:1,3" +
		" +pid2<1!%dd +pid5<1@2 +pid6<1!66 +dir1,0x5 +pipe1,0x5 +pipe1,1x5 +i2:1,2"
	parkedEnds = "0 -pid9<3@1dc -park9:3 -9.0:dir1,0 -9.1:pipe1,0 -9.2:pipe1,1 -dir1,0x6 -pipe1,0x6 -pipe1,1x6 -i1:0,6 +pid9<3!%ddc +dir1,0x5 +pipe1,0x5 +pipe1,1x5 +i1:0,5"
)

// P21.3: kill ends one that lives with 128 and the signal, whoever calls.
func TestKill(t *testing.T) {
	for _, pid := range []int{first, second, young, orphan} { // each may, itself too
		for _, s := range []int{1, 9, 31} {
			rows(t, asIs, []row{
				{pid, req(kill, young, s), fmt.Sprintf(youngEnds, 128+s)},
				{pid, req(kill, second, s), fmt.Sprintf(secondEnds, 128+s)},
				{pid, req(kill, parked, s), fmt.Sprintf(parkedEnds, 128+s)},
				{pid, req(kill, first, s), "EPERM"},
				{pid, req(kill, ended, s), "0"},
				{pid, req(kill, dead, s), "0"},
				{pid, req(kill, lost, s), "0"},
			})
		}
		for _, n := range living {
			rows(t, asIs, []row{{pid, req(kill, n, 0), "0"}})
		}
		for _, n := range []int{ended, dead, lost} {
			rows(t, asIs, []row{{pid, req(kill, n, 0), "0"}})
		}
		for _, n := range []int{gone, nobody, 0, -1, -2, 99, math.MaxInt, math.MinInt, 1 << 32, 1<<32 + second} {
			rows(t, asIs, []row{{pid, req(kill, n, 0), "ESRCH"}, {pid, req(kill, n, 1), "ESRCH"}, {pid, req(kill, n, 31), "ESRCH"}})
		}
	}
	inTurn(t, asIs, []row{
		{young, req(kill, young, 2), fmt.Sprintf(youngEnds, 130)},
		{first, req(kill, young, 9), "0"}, // which changes no code
		{young, req(getpid), "ESRCH"},
		{second, req(wait, young), "5 [130] -pid5<2!130"},
		{first, req(kill, young, 9), "ESRCH"},
		{first, req(kill, young), "ESRCH"},
		{first, req(kill, first), "0"},
		{first, req(kill, first, 1), "EPERM"},
	})
}

// P21.3: one that is killed may have the last descriptor of the one that kills.
func TestKillOfTheHolder(t *testing.T) {
	change := func(w *world.World) {
		dups(t, w, first, toSecond, young)
		must(t, "close", w.Close(first, toSecond))
	}
	rows(t, change, []row{
		{second, req(kill, young, 4), "0 -pid2<1@2d -pid5<2@2 -pid6<2!66 -2.0:dir1,0 -2.1:pipe1,0 -2.2:pipe1,1 -5.0:dir1,0 -5.1:pipe1,0 -5.2:pipe1,1 -5.3:proc2,0" +
			" -dir1,0x6 -pipe1,0x6 -pipe1,1x6 -proc2,0x1 -i2:1,3 +pid5<1!132 +pid6<1!66 +dir1,0x4 +pipe1,0x4 +pipe1,1x4 +i2:1,1"},
	})
}

// P21.3, P21.5: pdfork makes a child, and a descriptor of it with all rights, which the child has not.
func TestPdfork(t *testing.T) {
	rows(t, asIs, []row{
		{young, req(pdfork), "3 -dir1,0x6 -pipe1,0x6 -pipe1,1x6 -i2:1,3 +pid11<5@2d +5.3:proc11,0 +11.0:dir1,0 +11.1:pipe1,0 +11.2:pipe1,1" +
			" +dir1,0x7 +pipe1,0x7 +pipe1,1x7 +proc11,0x1 +i2:1,4"},
		{capable, req(pdfork), "4 -dir1,0x6 -pipe1,0x6 -pipe1,1x6 -proc9,0x1 -i1:0,6 +pid11<3@1dc +3.4:proc11,0 +11.0:dir1,0 +11.1:pipe1,0 +11.2:pipe1,1 +11.3:proc9,0" +
			" +dir1,0x7 +pipe1,0x7 +pipe1,1x7 +proc9,0x2 +proc11,0x1 +i1:0,7"},
		{parked, req(pdfork), "3 -dir1,0x6 -pipe1,0x6 -pipe1,1x6 -i1:0,6 +pid11<9@1dc +9.3:proc11,0 +11.0:dir1,0 +11.1:pipe1,0 +11.2:pipe1,1" +
			" +dir1,0x7 +pipe1,0x7 +pipe1,1x7 +proc11,0x1 +i1:0,7"},
	})
	between := func(w *world.World) { must(t, "close", w.Close(second, root)) }
	rows(t, between, []row{ // the least that is free; in the child that is free, too
		{second, req(pdfork), "0 -pipe1,0x6 -pipe1,1x6 -i2:1,3 +pid11<2@2d +2.0:proc11,0 +11.1:pipe1,0 +11.2:pipe1,1 +pipe1,0x7 +pipe1,1x7 +proc11,0x1 +i2:1,4"},
	})
	inTurn(t, asIs, []row{
		{orphan, req(pdfork), "3 -dir1,0x6 -pipe1,0x6 -pipe1,1x6 -i1:0,6 +pid11<7@1d +7.3:proc11,0 +11.0:dir1,0 +11.1:pipe1,0 +11.2:pipe1,1" +
			" +dir1,0x7 +pipe1,0x7 +pipe1,1x7 +proc11,0x1 +i1:0,7"},
		{orphan, req(pdgetpid, 3), "11"},
		{11, req(getppid), "7"},
		{11, req(pdgetpid, 3), "EBADF"},
		{orphan, req(wait, -1), "ECHILD"},
		{orphan, req(wait, 11, 1), "ECHILD"},
		{orphan, req(pdfork), "4 -dir1,0x7 -pipe1,0x7 -pipe1,1x7 -proc11,0x1 -i1:0,7 +pid12<7@1d +7.4:proc12,0 +12.0:dir1,0 +12.1:pipe1,0 +12.2:pipe1,1 +12.3:proc11,0" +
			" +dir1,0x8 +pipe1,0x8 +pipe1,1x8 +proc11,0x2 +proc12,0x1 +i1:0,8"},
		{12, req(pdgetpid, 3), "11"}, // its sister's
		{12, req(pdgetpid, 4), "EBADF"},
	})
}

// P21.3: pdfork asks for room first for a descriptor, then for an open file, then for a process; without it nothing is made.
func TestPdforkRoom(t *testing.T) {
	for _, pid := range []int{first, second, capable} {
		for fds := range 3 {
			for files := range 3 {
				for room := range 2 {
					w := scene(t)
					crowd(t, w, room)
					spare(t, w, pid, fds, files)
					want := ""
					switch {
					case fds == 0:
						want = "EMFILE"
					case files == 0:
						want = "ENFILE"
					case room == 0:
						want = "EAGAIN"
					}
					free, _ := w.Slots(pid).Free(0)
					next := w.Procs().Numbers()
					if want != "" {
						if got := outcome(w, pid, req(pdfork)); got != want {
							t.Errorf("%d: room for %d, %d, %d: %s, not %s", pid, fds, files, room, got, want)
						}
						continue
					}
					if x := Call(w, pid, req(pdfork)); x.Err != api.OK || x.Val != free {
						t.Errorf("%d: room for %d, %d, %d: %v", pid, fds, files, room, x)
					}
					if p, _ := w.Procs().Get(next); !p.Lives || !p.Pd || p.Parent != pid || w.Slots(next).Room() != fds {
						t.Errorf("%d: room for %d, %d, %d: %v", pid, fds, files, room, p)
					}
				}
			}
		}
	}
}

// P21.3: pdgetpid tells the number of a process that is there, whether it lives or not.
func TestPdgetpid(t *testing.T) {
	rows(t, asIs, []row{
		{first, req(pdgetpid, toSecond), "2"},
		{first, req(pdgetpid, toLost), "8"},
		{first, req(pdgetpid, toGone), "ESRCH"},
		{first, req(pdgetpid, toFirst), "1"},
		{first, req(pdgetpid, toNever), "ESRCH"},
		{capable, req(pdgetpid, toParked), "9"},
	})
	given := func(w *world.World) {
		for _, fd := range []int{toSecond, toLost, toGone} {
			dups(t, w, first, fd, parked)
		}
	}
	rows(t, given, []row{{parked, req(pdgetpid, 3), "2"}, {parked, req(pdgetpid, 4), "8"}, {parked, req(pdgetpid, 5), "ESRCH"}})
}

// P21.3: pdkill is as kill, of the process that the descriptor stands for.
func TestPdkill(t *testing.T) {
	for _, s := range []int{1, 9, 31} {
		rows(t, asIs, []row{
			{first, req(pdkill, toSecond, s), fmt.Sprintf(secondEnds, 128+s)},
			{capable, req(pdkill, toParked, s), fmt.Sprintf(parkedEnds, 128+s)},
			{first, req(pdkill, toLost, s), "0"},
			{first, req(pdkill, toGone, s), "ESRCH"},
			{first, req(pdkill, toFirst, s), "EPERM"},
			{first, req(pdkill, toNever, s), "ESRCH"},
		})
	}
	rows(t, asIs, []row{
		{first, req(pdkill, toSecond), "0"},
		{capable, req(pdkill, toParked), "0"},
		{first, req(pdkill, toLost), "0"},
		{first, req(pdkill, toGone), "ESRCH"},
		{first, req(pdkill, toFirst), "0"},
		{first, req(pdkill, toNever), "ESRCH"},
	})
	inTurn(t, func(w *world.World) { dups(t, w, first, toSecond, parked) }, []row{
		{first, req(kill, second), "0"},
		{parked, req(pdkill, 3, 5), fmt.Sprintf(secondEnds, 133)},
		{parked, req(pdkill, 3, 9), "0"}, // which changes no code
		{first, req(pdkill, toSecond, 9), "0"},
		{first, req(pdkill, toSecond), "0"},
		{first, req(pdgetpid, toSecond), "2"},
		{first, req(pdwait, toSecond), "1 [133] -pid2<1!133d"},
		{first, req(pdkill, toSecond, 9), "ESRCH"},
		{parked, req(pdkill, 3), "ESRCH"},
		{parked, req(pdgetpid, 3), "ESRCH"},
	})
}

// P21.3: a process may have a descriptor of itself, and end by it; with the last one it is reaped, too.
func TestPdkillOfItself(t *testing.T) {
	itself := func(w *world.World) { dups(t, w, first, toSecond, second) }
	rows(t, itself, []row{
		{second, req(pdgetpid, 3), "2"},
		{second, req(pdwait, 3), "EWAIT"},
		{second, req(pdwait, 3, 1), "0"},
		{second, req(pdkill, 3, 6), "0 -pid2<1@2d -pid5<2@2 -pid6<2!66 -2.0:dir1,0 -2.1:pipe1,0 -2.2:pipe1,1 -2.3:proc2,0 -dir1,0x6 -pipe1,0x6 -pipe1,1x6 -proc2,0x2 -i2:1,3" +
			" +pid2<1!134d +pid5<1@2 +pid6<1!66 +dir1,0x5 +pipe1,0x5 +pipe1,1x5 +proc2,0x1 +i2:1,2"},
	})
	last := func(w *world.World) {
		itself(w)
		must(t, "close", w.Close(first, toSecond))
	}
	rows(t, last, []row{
		{second, req(pdkill, 3, 6), "0 -pid2<1@2d -pid5<2@2 -pid6<2!66 -2.0:dir1,0 -2.1:pipe1,0 -2.2:pipe1,1 -2.3:proc2,0 -dir1,0x6 -pipe1,0x6 -pipe1,1x6 -proc2,0x1 -i2:1,3" +
			" +pid5<1@2 +pid6<1!66 +dir1,0x5 +pipe1,0x5 +pipe1,1x5 +i2:1,2"},
	})
}

// P21.3: pdwait tells once what a process ended with, and waits for one that lives.
func TestPdwait(t *testing.T) {
	rows(t, asIs, []row{
		{first, req(pdwait, toSecond), "EWAIT"},
		{first, req(pdwait, toSecond, 1), "0"},
		{first, req(pdwait, toLost), "1 [88] -pid8<1!88d"},
		{first, req(pdwait, toLost, 1), "1 [88] -pid8<1!88d"},
		{first, req(pdwait, toGone), "ESRCH"},
		{first, req(pdwait, toGone, 1), "ESRCH"},
		{first, req(pdwait, toFirst), "EWAIT"},
		{first, req(pdwait, toFirst, 1), "0"},
		{first, req(pdwait, toNever), "ESRCH"},
		{first, req(pdwait, toNever, 1), "ESRCH"},
		{capable, req(pdwait, toParked), "EWAIT"},
		{capable, req(pdwait, toParked, 1), "0"},
	})
	inTurn(t, func(w *world.World) { dups(t, w, first, toLost, parked) }, []row{
		{parked, req(pdwait, 3), "1 [88] -pid8<1!88d"}, // another one than its parent
		{parked, req(pdwait, 3), "ESRCH"},
		{first, req(pdwait, toLost, 1), "ESRCH"},
		{first, req(pdgetpid, toLost), "ESRCH"},
		{first, req(pdfork), "12 -dir1,0x6 -pipe1,0x6 -pipe1,1x6 -dir2,0x2 -file3,2x1 -sock1,2x1 -sock2,2x1 -proc2,0x1 -proc8,0x2 -proc10,0x1 -proc1,0x1 -proc99,0x1 -i1:0,6" +
			" +pid11<1@1d +1.12:proc11,0 +11.0:dir1,0 +11.1:pipe1,0 +11.2:pipe1,1 +11.3:dir2,0 +11.4:file3,2 +11.5:sock1,2 +11.6:sock2,2 +11.7:proc2,0 +11.8:proc8,0 +11.9:proc10,0 +11.10:proc1,0 +11.11:proc99,0" +
			" +dir1,0x7 +pipe1,0x7 +pipe1,1x7 +dir2,0x3 +file3,2x2 +sock1,2x2 +sock2,2x2 +proc2,0x2 +proc8,0x3 +proc10,0x2 +proc1,0x2 +proc99,0x2 +proc11,0x1 +i1:0,7"},
		{first, req(pdwait, toLost), "ESRCH"}, // no number comes twice
		{first, req(pdwait, 12, 1), "0"},
	})
	zero := func(w *world.World) { must(t, "end", w.End(second, 0)) }
	rows(t, zero, []row{{first, req(pdwait, toSecond), "1 [0] -pid2<1!0d"}}) // a code of 0 is told, too
}

// P21.3: with its last descriptor a child that lives ends, and is reaped.
func TestCloseOfTheLast(t *testing.T) {
	w := world.New(some)
	do := func(pid, no int, want api.Res, a ...int) {
		t.Helper()
		got := Call(w, pid, req(no, a...))
		if no == 6 {
			got = fscalls.Call(w, pid, req(no, a...))
		}
		if fmt.Sprint(got) != fmt.Sprint(want) {
			t.Errorf("%d: %d %v: %v, not %v", pid, no, a, got, want)
		}
	}
	do(1, pdfork, api.Res{})
	do(1, fork, api.Res{Val: 3}) // which has the descriptor, too
	do(2, fork, api.Res{Val: 4})
	do(1, 6, api.Res{}, 0)
	do(3, pdgetpid, api.Res{Val: 2})
	do(2, getppid, api.Res{Val: 1})
	do(3, 6, api.Res{}, 0)
	do(2, getpid, api.Res{Err: api.ESRCH})
	do(1, kill, api.Res{Err: api.ESRCH}, 2)
	do(4, getppid, api.Res{Val: 1})
	if d := w.Dump(); len(d.Procs) != 3 || len(d.Files) != 0 {
		t.Error(d)
	}
}

// P21.5: what a child has is its own from then on; the open files are its parent's, too.
func TestChildApart(t *testing.T) {
	for _, no := range []int{fork, pdfork} {
		w := scene(t)
		must(t, "limit", w.Slots(second).Limit(pipeW, api.CapWrite))
		if x := Call(w, second, req(no)); x.Err != api.OK {
			t.Fatal(x)
		}
		const child = 11
		must(t, "close", w.Close(second, root))
		must(t, "move", w.Move(second, 1))
		must(t, "enter", w.Procs().Enter(second))
		p, _ := w.Procs().Get(child)
		if p.Cwd != 2 || p.Cap || p.Pd != (no == pdfork) {
			t.Error(p)
		}
		if got := fmt.Sprint(w.Slots(child).All()); got != "[0 1 2]" {
			t.Error(got)
		}
		s, e := w.Slots(child).Get(pipeW, 0)
		if e != api.OK || s.Rights != api.CapWrite || s.Ioctls.All || s.Fcntls != 0 {
			t.Error(s, e)
		}
		must(t, "limit", w.Slots(child).Limit(pipeR, 0))
		if _, e := w.Slots(second).Get(pipeR, api.CapAll); e != api.OK {
			t.Error(e)
		}
		must(t, "files", fscalls.Call(w, child, api.Req{No: 4, A: [5]int{pipeW}, S: "hi"}).Err)
		if x := fscalls.Call(w, second, req(3, pipeR, 9)); x.S != "hi" {
			t.Error(x)
		}
	}
}
