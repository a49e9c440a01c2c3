package proccalls

import (
	"fmt"
	"slices"
	"strings"
	"testing"

	"purlieu/api"
	"purlieu/world"
)

// P21.2: exit ends the caller with its code: its directory and descriptors are let go, its children are of 1.
func TestExit(t *testing.T) {
	rows(t, asIs, []row{
		{first, req(exit), "EPERM"},
		{first, req(exit, 255), "EPERM"},
		{second, req(exit, 7), "0 -pid2<1@2d -pid5<2@2 -pid6<2!66 -2.0:dir1,0 -2.1:pipe1,0 -2.2:pipe1,1 -dir1,0x6 -pipe1,0x6 -pipe1,1x6 -i2:1,3" +
			" +pid2<1!7d +pid5<1@2 +pid6<1!66 +dir1,0x5 +pipe1,0x5 +pipe1,1x5 +i2:1,2"},
		{young, req(exit, 255), "0 -pid5<2@2 -5.0:dir1,0 -5.1:pipe1,0 -5.2:pipe1,1 -dir1,0x6 -pipe1,0x6 -pipe1,1x6 -i2:1,3" +
			" +pid5<2!255 +dir1,0x5 +pipe1,0x5 +pipe1,1x5 +i2:1,2"},
		{orphan, req(exit), "0 -pid7<1@1 -7.0:dir1,0 -7.1:pipe1,0 -7.2:pipe1,1 -dir1,0x6 -pipe1,0x6 -pipe1,1x6 -i1:0,6" +
			" +pid7<1!0 +dir1,0x5 +pipe1,0x5 +pipe1,1x5 +i1:0,5"},
	})
}

// P21.2: one that waits waits no more when it ends.
func TestExitOfOneThatWaits(t *testing.T) {
	rows(t, asIs, []row{
		{parked, req(exit, 3), "0 -pid9<3@1dc -park9:3 -9.0:dir1,0 -9.1:pipe1,0 -9.2:pipe1,1 -dir1,0x6 -pipe1,0x6 -pipe1,1x6 -i1:0,6" +
			" +pid9<3!3dc +dir1,0x5 +pipe1,0x5 +pipe1,1x5 +i1:0,5"},
	})
}

// P21.2: with the last descriptor of a process that process ends, too, and is reaped; with one of others it goes on.
func TestExitWithTheLastDescriptor(t *testing.T) {
	rows(t, asIs, []row{
		{capable, req(exit, 1), "0 -pid3<1@1c -pid9<3@1dc -park9:3 -3.0:dir1,0 -3.1:pipe1,0 -3.2:pipe1,1 -3.3:proc9,0 -9.0:dir1,0 -9.1:pipe1,0 -9.2:pipe1,1" +
			" -dir1,0x6 -pipe1,0x6 -pipe1,1x6 -proc9,0x1 -i1:0,6 +pid3<1!1c +dir1,0x4 +pipe1,0x4 +pipe1,1x4 +i1:0,4"},
	})
	rows(t, func(w *world.World) { dups(t, w, capable, toParked, young) }, []row{
		{capable, req(exit, 1), "0 -pid3<1@1c -pid9<3@1dc -3.0:dir1,0 -3.1:pipe1,0 -3.2:pipe1,1 -3.3:proc9,0 -dir1,0x6 -pipe1,0x6 -pipe1,1x6 -proc9,0x2 -i1:0,6" +
			" +pid3<1!1c +pid9<1@1dc +dir1,0x5 +pipe1,0x5 +pipe1,1x5 +proc9,0x1 +i1:0,5"},
	})
	itself := func(w *world.World) { // the second one has the only descriptor of itself
		dups(t, w, first, toSecond, second)
		must(t, "close", w.Close(first, toSecond))
	}
	rows(t, itself, []row{
		{second, req(exit, 7), "0 -pid2<1@2d -pid5<2@2 -pid6<2!66 -2.0:dir1,0 -2.1:pipe1,0 -2.2:pipe1,1 -2.3:proc2,0 -dir1,0x6 -pipe1,0x6 -pipe1,1x6 -proc2,0x1 -i2:1,3" +
			" +pid5<1@2 +pid6<1!66 +dir1,0x5 +pipe1,0x5 +pipe1,1x5 +i2:1,2"},
	})
}

// P21.2: what was passed and is still on its way goes with the one that could have received it.
func TestExitWithWhatIsOnItsWay(t *testing.T) {
	const its = 3 // where it has the socket
	moves := func(w *world.World, fds ...int) {
		if dups(t, w, first, two, young) != its {
			t.Fatal("another number")
		}
		for _, fd := range append(fds, two) {
			must(t, "close", w.Close(first, fd))
		}
	}
	rows(t, func(w *world.World) { moves(w, dir) }, []row{
		{young, req(exit), "0 -pid5<2@2 -5.0:dir1,0 -5.1:pipe1,0 -5.2:pipe1,1 -5.3:sock2,2 -dir1,0x6 -pipe1,0x6 -pipe1,1x6 -dir2,0x1 -sock2,2x1 -s1-2 -s2-1=x+1 -i2:1,3" +
			" +pid5<2!0 +dir1,0x5 +pipe1,0x5 +pipe1,1x5 +s1-0 +i2:1,1"},
	})
	last := func(w *world.World) { // the last descriptor of the second process is on its way
		p, e := w.Pass(first, toSecond)
		must(t, "pass", e)
		_, e = w.Socks().Send(1, []byte("y"), []api.Passed{p})
		must(t, "send", e)
		moves(w, toSecond)
	}
	rows(t, last, []row{
		{young, req(exit, 5), "0 -pid2<1@2d -pid5<2@2 -pid6<2!66 -2.0:dir1,0 -2.1:pipe1,0 -2.2:pipe1,1 -5.0:dir1,0 -5.1:pipe1,0 -5.2:pipe1,1 -5.3:sock2,2" +
			" -dir1,0x6 -pipe1,0x6 -pipe1,1x6 -dir2,0x2 -sock2,2x1 -proc2,0x1 -s1-2 -s2-1=x+1=y+1 -i2:1,3" +
			" +pid5<1!5 +pid6<1!66 +dir1,0x4 +pipe1,0x4 +pipe1,1x4 +dir2,0x1 +s1-0 +i2:1,1"},
	})
}

// has answers what a process has by a fork: it has it itself, and each open file is named by one more.
func has(pid int, refs map[string]string, fds ...string) (string, string) {
	var minus, plus []string
	for i, fd := range fds {
		plus = append(plus, fmt.Sprintf("+%d.%d:%s", pid, i, fd))
	}
	for _, fd := range fds {
		minus = append(minus, "-"+fd+"x"+refs[fd])
		plus = append(plus, "+"+fd+"x"+string(rune(refs[fd][0]+1)))
	}
	return strings.Join(minus, " "), strings.Join(plus, " ")
}

// P21.2, P21.5: a child has its parent's descriptors, directory and capability mode; no descriptor stands for it.
func TestFork(t *testing.T) {
	refs := map[string]string{"dir1,0": "6", "pipe1,0": "6", "pipe1,1": "6", "dir2,0": "2", "file3,2": "1", "sock1,2": "1", "sock2,2": "1", "proc2,0": "1", "proc8,0": "1", "proc10,0": "1", "proc1,0": "1", "proc99,0": "1", "proc9,0": "1"}
	all := []string{"dir1,0", "pipe1,0", "pipe1,1"}
	for _, x := range []struct {
		pid         int
		child, i    string
		fds         []string
		minus, plus string
	}{
		{first, "pid11<1@1", "i1:0,", []string{"dir2,0", "file3,2", "sock1,2", "sock2,2", "proc2,0", "proc8,0", "proc10,0", "proc1,0", "proc99,0"}, "6", "7"},
		{second, "pid11<2@2", "i2:1,", nil, "3", "4"},
		{capable, "pid11<3@1c", "i1:0,", []string{"proc9,0"}, "6", "7"},
		{young, "pid11<5@2", "i2:1,", nil, "3", "4"},
		{orphan, "pid11<7@1", "i1:0,", nil, "6", "7"},
		{parked, "pid11<9@1c", "i1:0,", nil, "6", "7"},
	} {
		minus, plus := has(11, refs, slices.Concat(all, x.fds)...)
		rows(t, asIs, []row{{x.pid, req(fork), "11 " + minus + " -" + x.i + x.minus + " +" + x.child + " " + plus + " +" + x.i + x.plus}})
	}
}

// P21.2, P21.5: the child's descriptors have the rights and whitelists that its parent's have; and with none it has none.
func TestForkOfLimited(t *testing.T) {
	limit := func(w *world.World) {
		s := w.Slots(young)
		must(t, "limit", s.Limit(root, api.CapRead|api.CapIoctl|api.CapFcntl))
		must(t, "limit", s.LimitIoctls(root, []int{3, 1}))
		must(t, "limit", s.LimitFcntls(root, api.FcntlGetfl))
		must(t, "close", w.Close(young, pipeR))
	}
	rows(t, limit, []row{{young, req(fork), "11 -dir1,0x6 -pipe1,1x6 -i2:1,3 +pid11<5@2 +11.0:dir1,0;read,fcntl,ioctl;1,3;8 +11.2:pipe1,1 +dir1,0x7 +pipe1,1x7 +i2:1,4"}})
	closes := func(w *world.World) {
		for fd := range free {
			must(t, "close", w.Close(first, fd))
		}
	}
	rows(t, closes, []row{{first, req(fork), "11 -i1:0,6 +pid11<1@1 +i1:0,7"}})
}

// P21.2: a fork asks for no room but that of a process.
func TestForkRoom(t *testing.T) {
	for room := range 3 {
		tight := func(w *world.World) {
			crowd(t, w, room)
			spare(t, w, first, 0, 0)
		}
		w := scene(t)
		tight(w)
		for i := range 4 {
			want := api.Res{Err: api.EAGAIN}
			if i < room {
				want = api.Res{Val: w.Procs().Numbers()}
			}
			if got := Call(w, []int{first, second, first, capable}[i], req(fork)); fmt.Sprint(got) != fmt.Sprint(want) {
				t.Errorf("room %d, %d: %v, not %v", room, i, got, want)
			}
		}
	}
	inTurn(t, func(w *world.World) { crowd(t, w, 0) }, []row{ // one that ended needs room, too, until it is reaped
		{first, req(fork), "EAGAIN"},
		{young, req(fork), "EAGAIN"},
		{second, req(wait, dead), "6 [66] -pid6<2!66"},
		{young, req(fork), "14 -dir1,0x9 -pipe1,0x9 -pipe1,1x9 -i2:1,3 +pid14<5@2 +14.0:dir1,0 +14.1:pipe1,0 +14.2:pipe1,1 +dir1,0x10 +pipe1,0x10 +pipe1,1x10 +i2:1,4"},
		{second, req(fork), "EAGAIN"},
	})
}

// P21.2: numbers of processes, and of their parents: of one whose parent ended, 1.
func TestGetpid(t *testing.T) {
	parents := map[int]int{first: 0, second: 1, capable: 1, young: second, orphan: 1, parked: capable}
	for _, pid := range living {
		rows(t, asIs, []row{{pid, req(getpid), fmt.Sprint(pid)}, {pid, req(getppid), fmt.Sprint(parents[pid])}})
	}
	inTurn(t, asIs, []row{
		{young, req(fork), "11 -dir1,0x6 -pipe1,0x6 -pipe1,1x6 -i2:1,3 +pid11<5@2 +11.0:dir1,0 +11.1:pipe1,0 +11.2:pipe1,1 +dir1,0x7 +pipe1,0x7 +pipe1,1x7 +i2:1,4"},
		{11, req(getppid), "5"},
		{first, req(kill, young, 3), "0 -pid5<2@2 -pid11<5@2 -5.0:dir1,0 -5.1:pipe1,0 -5.2:pipe1,1 -dir1,0x7 -pipe1,0x7 -pipe1,1x7 -i2:1,4" +
			" +pid5<2!131 +pid11<1@2 +dir1,0x6 +pipe1,0x6 +pipe1,1x6 +i2:1,3"},
		{11, req(getppid), "1"},
		{11, req(getpid), "11"},
		{young, req(getppid), "ESRCH"},
	})
}

// P21.2: wait for any child, or for one.
func TestWait(t *testing.T) {
	rows(t, asIs, []row{
		{first, req(wait, -1), "4 [44] -pid4<1!44"},
		{first, req(wait, 0), "4 [44] -pid4<1!44"},
		{first, req(wait, ended), "4 [44] -pid4<1!44"},
		{first, req(wait, -1, 1), "4 [44] -pid4<1!44"},
		{first, req(wait, 0, 1), "4 [44] -pid4<1!44"},
		{first, req(wait, ended, 1), "4 [44] -pid4<1!44"},
		{first, req(wait, orphan), "EWAIT"},
		{first, req(wait, orphan, 1), "0"},
		{first, req(wait, second), "ECHILD"}, // a descriptor stands for it
		{first, req(wait, second, 1), "ECHILD"},
		{first, req(wait, lost), "ECHILD"},
		{first, req(wait, lost, 1), "ECHILD"},
		{first, req(wait, gone), "ECHILD"},
		{first, req(wait, young), "ECHILD"}, // another's
		{first, req(wait, dead, 1), "ECHILD"},
		{first, req(wait, first), "ECHILD"},
		{first, req(wait, nobody), "ECHILD"},
		{first, req(wait, nobody, 1), "ECHILD"},
		{second, req(wait, -1), "6 [66] -pid6<2!66"},
		{second, req(wait, dead), "6 [66] -pid6<2!66"},
		{second, req(wait, young), "EWAIT"},
		{second, req(wait, young, 1), "0"},
		{second, req(wait, ended, 1), "ECHILD"},
		{young, req(wait, -1), "ECHILD"},
		{young, req(wait, 0, 1), "ECHILD"},
		{young, req(wait, second), "ECHILD"}, // its parent
		{orphan, req(wait, ended), "ECHILD"},
	})
	far := []int{-1 << 63, -1 << 32, -100, -3, -2}
	for _, which := range far {
		for _, pid := range []int{first, second, young} {
			rows(t, asIs, []row{{pid, req(wait, which), "EINVAL"}, {pid, req(wait, which, 1), "EINVAL"}})
		}
	}
}

// P21.2: which of several that ended is waited for first, and what there is behind it.
func TestWaitInTurn(t *testing.T) {
	inTurn(t, func(w *world.World) { must(t, "end", w.End(orphan, 0)) }, []row{
		{first, req(wait, orphan), "7 [0] -pid7<1!0"},
		{first, req(wait, orphan), "ECHILD"}, // it was waited for
		{first, req(wait, -1), "4 [44] -pid4<1!44"},
		{first, req(wait, -1), "EWAIT"}, // capable lives
		{first, req(wait, 0, 1), "0"},
		{first, req(wait, capable), "EWAIT"},
		{first, req(kill, capable, 1), "0 -pid3<1@1c -pid9<3@1dc -park9:3 -3.0:dir1,0 -3.1:pipe1,0 -3.2:pipe1,1 -3.3:proc9,0 -9.0:dir1,0 -9.1:pipe1,0 -9.2:pipe1,1" +
			" -dir1,0x5 -pipe1,0x5 -pipe1,1x5 -proc9,0x1 -i1:0,5 +pid3<1!129c +dir1,0x3 +pipe1,0x3 +pipe1,1x3 +i1:0,3"},
		{first, req(wait, -1, 1), "3 [129] -pid3<1!129c"},
		{first, req(wait, -1, 1), "ECHILD"}, // those that are left have a descriptor
		{second, req(exit, 9), "0 -pid2<1@2d -pid5<2@2 -pid6<2!66 -2.0:dir1,0 -2.1:pipe1,0 -2.2:pipe1,1 -dir1,0x3 -pipe1,0x3 -pipe1,1x3 -i2:1,3" +
			" +pid2<1!9d +pid5<1@2 +pid6<1!66 +dir1,0x2 +pipe1,0x2 +pipe1,1x2 +i2:1,2"},
		{first, req(wait, 0), "6 [66] -pid6<1!66"}, // which is of 1 now
		{first, req(wait, 0), "EWAIT"},
	})
	least := func(w *world.World) {
		for _, pid := range []int{orphan, capable} {
			must(t, "end", w.End(pid, pid))
		}
	}
	inTurn(t, least, []row{
		{first, req(wait, -1), "3 [3] -pid3<1!3c"},
		{first, req(wait, -1), "4 [44] -pid4<1!44"},
		{first, req(wait, -1), "7 [7] -pid7<1!7"},
		{first, req(wait, -1), "ECHILD"},
	})
}
