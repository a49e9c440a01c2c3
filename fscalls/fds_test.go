package fscalls

import (
	"fmt"
	"math"
	"strings"
	"testing"

	"purlieu/api"
	"purlieu/slots"
	"purlieu/white"
	"purlieu/world"
)

// doing does calls one behind the other, and tells what comes of each.
func doing(t *testing.T, w *world.World, rows []row) {
	t.Helper()
	for i, x := range rows {
		if got := outcome(w, first, x.r); got != x.want {
			t.Errorf("%d: %v: %s, not %s", i, x.r, got, x.want)
		}
	}
}

// lonely answers a scene in which the first process alone has descriptors, and nothing is passed.
func lonely(t *testing.T) *world.World {
	w := scene(t)
	for _, pid := range []int{second, capable} {
		for _, fd := range w.Slots(pid).All() {
			must(t, "close", w.Close(pid, fd))
		}
	}
	must(t, "read", Call(w, first, req(read, "", sent, 9)).Err)
	must(t, "read", Call(w, first, req(read, "", sent, 9)).Err)
	return w
}

// P19.4: close frees a descriptor, and lets go of what it named.
func TestClose(t *testing.T) {
	eachOf(t, func(w *world.World) {
		for pid := first; pid <= capable; pid++ {
			for fd := range free {
				w.Close(pid, fd)
			}
		}
	}, req(closes, "", 0), "EBADF", nil)
	doing(t, lonely(t), []row{
		{req(closes, "", fileB), "0 -file3@0,2x2 -1.2:file3,2 +file3@0,2x1"}, {req(closes, "", fileB), "EBADF"},
		{req(closes, "", again), "0 -i3=hello,2,5,1 -file3@0,2x1 -1.4:file3,2 +i3=hello,2,4,1"},
		{req(closes, "", gone), "0 -i4=,0,1,0 -dir4@0,0x1 -1.7:dir4,0"},
		{req(closes, "", someW), "0 -pipe3@0,1x1 -p3,true,true=abc -1.13:pipe3,1 +p3,true,false=abc"},
		{req(closes, "", someR), "0 -pipe3@0,0x1 -p3,true,false=abc -1.12:pipe3,0"},
		{req(closes, "", fullR), "0 -pipe2@0,0x1 -p2,true,true=12345678 -1.10:pipe2,0 +p2,false,true="}, {req(write, "a", fullW), "EPIPE"}, {req(write, "", fullW), "EPIPE"},
		{req(closes, "", two), "0 -sock4@0,2x1 -s3-4= -s4-3= -1.20:sock4,2 +s3-0="}, {req(read, "", one, 1), "0"}, {req(write, "a", one), "EPIPE"}, {req(write, "", one), "0"},
		{req(closes, "", full), "0 -sock6@0,2x1 -s5-6= -s6-5=12345678+0 -1.22:sock6,2 +s5-0="},
		{req(closes, "", proc), "0 -i2=,1,2,0 -proc2@0,0x1 -1.29:proc2,0 -pid2,true,0@2 +i2=,1,1,0"},
	})
	w := scene(t)
	for _, x := range []struct {
		pid  int
		want string
	}{{second, "0 -dir2@0,0x4 -2.6:dir2,0 +dir2@0,0x3"}, {capable, "0 -dir2@0,0x3 -3.6:dir2,0 +dir2@0,0x2"}, {capable, "EBADF"}} {
		if got := outcome(w, x.pid, req(closes, "", dir)); got != x.want {
			t.Errorf("%d: %s, not %s", x.pid, got, x.want)
		}
	}
}

// P19.4: close asks for no right; what was passed and waits in a socket that closes is dropped.
func TestCloseWithoutRights(t *testing.T) {
	w := scene(t)
	for fd := range free {
		must(t, "limit", w.Slots(first).Limit(fd, 0))
		if x := Call(w, first, req(closes, "", fd)); x.Err != api.OK || x.Val != 0 {
			t.Errorf("%d: %v", fd, x)
		}
	}
	for _, pid := range []int{second, capable} {
		must(t, "close", Call(w, pid, req(closes, "", fileR)).Err)
		must(t, "close", Call(w, pid, req(closes, "", fileB)).Err)
		must(t, "close", Call(w, pid, req(closes, "", again)).Err)
	}
	must(t, "close", Call(w, second, req(closes, "", sent)).Err)
	got := outcome(w, capable, req(closes, "", sent))
	for _, line := range []string{"-s5-6=abc+2 de+1", "-file3@0,0x1", "-file3@0,2x1", "-dir2@0,0x3", "+dir2@0,0x2", "-s6-5=12345678+0", "+s6-0=12345678+0"} {
		if !strings.Contains(" "+got+" ", " "+line+" ") {
			t.Errorf("%s: without %s", got, line)
		}
	}
}

// P19.4: a process that closes the last descriptor of itself ends.
func TestCloseOfItself(t *testing.T) {
	w := scene(t)
	must(t, "close", w.Close(first, proc))
	must(t, "close", w.Close(capable, proc))
	if x := Call(w, second, req(closes, "", proc)); x.Err != api.OK {
		t.Error(x)
	}
	if got := outcome(w, second, req(closes, "", fileR)); got != "ESRCH" {
		t.Error(got)
	}
}

// P19.4: dup makes a descriptor more of the same open file, like the one that it is of: the least that is free.
func TestDup(t *testing.T) {
	for fd := range free {
		for _, r := range []api.Req{req(dup, "", fd), req(dup2, "", fd, most), req(fcntl, "", fd, 0, most), req(dup2, "", fd, proc), req(dup2, "", fd, fileR), req(dup2, "", fd, fd)} {
			w := scene(t)
			s := w.Slots(first)
			must(t, "limit", s.LimitIoctls(fd, []int{1, 7}))
			must(t, "limit", s.LimitFcntls(fd, api.FcntlGetfl))
			must(t, "limit", s.Limit(fd, api.CapRead|api.CapIoctl|api.CapFcntl))
			x := Call(w, first, r)
			a, _ := s.Get(fd, 0)
			b, _ := s.Get(x.Val, 0)
			if x.Err != api.OK || fmt.Sprint(a) != fmt.Sprint(b) || b.Rights != api.CapRead|api.CapIoctl|api.CapFcntl || white.Show(b.Ioctls) != "1,7" || b.Fcntls != api.FcntlGetfl {
				t.Errorf("%v: %v: %v, not %v", r, x, b, a)
			}
		}
	}
	for fd := range free {
		w := scene(t)
		must(t, "limit", w.Slots(first).Limit(fd, 0))
		if x := Call(w, first, req(dup, "", fd)); x.Val != free || x.Err != api.OK {
			t.Errorf("%d: %v", fd, x)
		}
	}
	doing(t, scene(t), []row{
		{req(dup, "", fileB), "30 -file3@0,2x7 +file3@0,2x8 +1.30:file3,2"}, {req(dup, "", again), "31 -file3@0,2x8 +file3@0,2x9 +1.31:file3,2"},
		{req(closes, "", fileR), "0 -file3@0,0x4 -1.0:file3,0 +file3@0,0x3"}, {req(dup, "", pipeR), "0 -pipe1@0,0x3 +pipe1@0,0x4 +1.0:pipe1,0"},
		{req(dup, "", 30), "EMFILE"}, {req(dup, "", proc), "EMFILE"}, {req(dup, "", 32), "EBADF"},
	})
}

// P19.4: dup2 puts a descriptor at a number, whatever is there, but to itself nothing is done.
func TestDup2(t *testing.T) {
	doing(t, lonely(t), []row{
		{req(dup2, "", fileB, free), "30 -file3@0,2x2 +file3@0,2x3 +1.30:file3,2"}, {req(dup2, "", fileB, most), "31 -file3@0,2x3 +file3@0,2x4 +1.31:file3,2"},
		{req(dup2, "", fileB, fileB), "2"}, {req(dup2, "", fileB, again), "4"}, {req(dup2, "", again, fileB), "2"}, {req(dup2, "", free, most), "31"},
		{req(dup2, "", fileB, beyond), "EBADF"}, {req(dup2, "", fileB, beyond+1), "EBADF"}, {req(dup2, "", fileB, -1), "EBADF"}, {req(dup2, "", fileB, math.MaxInt), "EBADF"}, {req(dup2, "", fileB, math.MinInt), "EBADF"},
		{req(dup2, "", fileB, gone), "7 -i4=,0,1,0 -file3@0,2x4 -dir4@0,0x1 -1.7:dir4,0 +file3@0,2x5 +1.7:file3,2"},
		{req(dup2, "", fileB, fullR), "10 -file3@0,2x5 -pipe2@0,0x1 -p2,true,true=12345678 -1.10:pipe2,0 +file3@0,2x6 +p2,false,true= +1.10:file3,2"},
		{req(dup2, "", fullW, someW), "13 -pipe2@0,1x1 -pipe3@0,1x1 -p3,true,true=abc -1.13:pipe3,1 +pipe2@0,1x2 +p3,true,false=abc +1.13:pipe2,1"},
		{req(dup2, "", dir, proc), "29 -i2=,1,2,0 -dir2@0,0x1 -proc2@0,0x1 -1.29:proc2,0 -pid2,true,0@2 +i2=,1,1,0 +dir2@0,0x2 +1.29:dir2,0"},
	})
	w := scene(t)
	must(t, "limit", w.Slots(first).Limit(fileR, 0))
	doing(t, w, []row{{req(dup2, "", fileR, fileR), "0"}, {req(dup2, "", fileR, free), "30 -file3@0,0x4 +file3@0,0x5 +1.30:file3,0;none;none;0"}})
}

// P19.4: fcntl 0 makes a descriptor more from a number on; without any right.
func TestDupFrom(t *testing.T) {
	rows := []row{
		{req(fcntl, "", fileB, 0, 0), "30 -file3@0,2x7 +file3@0,2x8 +1.30:file3,2"}, {req(fcntl, "", fileB, 0, 7), "30 -file3@0,2x7 +file3@0,2x8 +1.30:file3,2"}, {req(fcntl, "", fileB, 0, free), "30 -file3@0,2x7 +file3@0,2x8 +1.30:file3,2"},
		{req(fcntl, "", fileB, 0, most), "31 -file3@0,2x7 +file3@0,2x8 +1.31:file3,2"}, {req(fcntl, "", fileB, 0, beyond), "EINVAL"}, {req(fcntl, "", fileB, 0, beyond+1), "EINVAL"},
		{req(fcntl, "", fileB, 0, -1), "EINVAL"}, {req(fcntl, "", fileB, 0, math.MaxInt), "EINVAL"}, {req(fcntl, "", fileB, 0, math.MinInt), "EINVAL"},
	}
	rowsOf(t, asIs, rows)
	for i := range rows {
		rows[i].want = strings.ReplaceAll(rows[i].want, "+1.30:file3,2", "+1.30:file3,2;none;none;0")
		rows[i].want = strings.ReplaceAll(rows[i].want, "+1.31:file3,2", "+1.31:file3,2;none;none;0")
	}
	rowsOf(t, func(w *world.World) { must(t, "limit", w.Slots(first).Limit(fileB, 0)) }, rows)
	w := scene(t)
	doing(t, w, []row{
		{req(fcntl, "", pipeR, 0, most), "31 -pipe1@0,0x3 +pipe1@0,0x4 +1.31:pipe1,0"}, {req(fcntl, "", pipeR, 0, most), "EMFILE"}, {req(fcntl, "", pipeR, 0, free), "30 -pipe1@0,0x4 +pipe1@0,0x5 +1.30:pipe1,0"},
		{req(fcntl, "", pipeR, 0, 3), "EMFILE"}, {req(fcntl, "", pipeR, 0, 0), "EMFILE"}, {req(closes, "", fileR), "0 -file3@0,0x4 -1.0:file3,0 +file3@0,0x3"}, {req(fcntl, "", pipeR, 0, 1), "EMFILE"}, {req(fcntl, "", pipeR, 0, 0), "0 -pipe1@0,0x5 +pipe1@0,0x6 +1.0:pipe1,0"},
	})
}

// P19.4: the commands of fcntl, on a descriptor with all rights.
func TestFcntl(t *testing.T) {
	for fd := range free {
		w := scene(t)
		_, f, _ := w.Look(first, fd, 0)
		way := f.Flags &^ (nonblock | app)
		doing(t, w, []row{
			{req(fcntl, "", fd, 3, 0), fmt.Sprint(f.Flags)}, {req(fcntl, "", fd, 3, -1), fmt.Sprint(f.Flags)}, {req(fcntl, "", fd, 3, 99), fmt.Sprint(f.Flags)}, {req(fcntl, "", fd, 5, 0), "0"}, {req(fcntl, "", fd, 5, -1), "0"}, {req(fcntl, "", fd, 5, 99), "0"},
			{req(fcntl, "", fd, 6, 0), "0"}, {req(fcntl, "", fd, 6, 1), "0"}, {req(fcntl, "", fd, 6, math.MaxInt), "0"}, {req(fcntl, "", fd, 6, -1), "EINVAL"}, {req(fcntl, "", fd, 6, math.MinInt), "EINVAL"},
		})
		for _, cmd := range []int{1, 2, 7, 8, 64, 67, -1, -3, math.MaxInt, math.MinInt, 1 << 32} {
			if got := outcome(w, first, req(fcntl, "", fd, cmd, 0)); got != "EINVAL" {
				t.Errorf("%d: %d: %s", fd, cmd, got)
			}
		}
		for bit := range 63 {
			if got := outcome(w, first, req(fcntl, "", fd, 4, 1<<bit|nonblock)); got != "EINVAL" && 1<<bit != nonblock && 1<<bit != app {
				t.Errorf("%d: %d: %s", fd, bit, got)
			}
		}
		for _, flags := range []int{nonblock, nonblock | app, app, 0, nonblock | app, 0} {
			if x := Call(w, first, req(fcntl, "", fd, 4, flags)); x.Err != api.OK || x.Val != 0 {
				t.Errorf("%d: %d: %v", fd, flags, x)
			}
			if x := Call(w, first, req(fcntl, "", fd, 3, 0)); x.Err != api.OK || x.Val != way|flags {
				t.Errorf("%d: %d: %v, not %d", fd, flags, x, way|flags)
			}
		}
		if got := outcome(w, first, req(fcntl, "", fd, 4, math.MinInt)); got != "EINVAL" {
			t.Errorf("%d: %s", fd, got)
		}
	}
	rowsOf(t, asIs, []row{{req(fcntl, "", fileW, 4, wr), "EINVAL"}, {req(fcntl, "", fileB, 4, both), "EINVAL"}, {req(fcntl, "", fileB, 4, -1), "EINVAL"}, {req(fcntl, "", fileB, 4, both|nonblock), "EINVAL"}})
}

// P19.4: the flags are the open file's, so all its descriptors have them, and no other open file's.
func TestFlagsAreShared(t *testing.T) {
	w := scene(t)
	for i, x := range []struct {
		pid int
		r   api.Req
		val int
	}{
		{first, req(fcntl, "", fileB, 4, nonblock), 0}, {first, req(fcntl, "", again, 3), both | nonblock}, {second, req(fcntl, "", fileB, 3), both | nonblock}, {capable, req(fcntl, "", again, 3), both | nonblock}, {first, req(fcntl, "", other, 3), both},
		{capable, req(ioctl, "", again, 2, 0), 0}, {first, req(fcntl, "", fileB, 3), both}, {first, req(ioctl, "", fileA, 2, 1), 0}, {second, req(fcntl, "", fileA, 3), both | nonblock | app}, {second, req(ioctl, "", fileA, 2, 1), 0}, {second, req(fcntl, "", fileA, 3), both | nonblock | app}, {second, req(ioctl, "", fileA, 2, 0), 0}, {first, req(fcntl, "", fileA, 3), both | app},
	} {
		if got := Call(w, x.pid, x.r); got.Err != api.OK || got.Val != x.val {
			t.Errorf("%d: %v, not %d", i, got, x.val)
		}
	}
}

// P19.4: a command of fcntl needs the right fcntl and its bit; that is told ahead of what is wrong with arg, but not of what is no command, nor of 0.
func TestFcntlCan(t *testing.T) {
	for mask := 0; mask <= api.FcntlAll; mask += 8 {
		for _, right := range []api.Rights{0, api.CapFcntl, api.CapAll &^ api.CapFcntl, api.CapAll} {
			for cmd := range 9 {
				for _, arg := range []int{0, nonblock, wr, -1} {
					w := scene(t)
					s := w.Slots(first)
					must(t, "limit", s.LimitFcntls(pipeR, mask))
					must(t, "limit", s.Limit(pipeR, right))
					can := right&api.CapFcntl != 0 && mask&(1<<cmd) != 0
					want := api.OK
					switch {
					case cmd == 0 && arg < 0, cmd == 1 || cmd == 2 || cmd > 6:
						want = api.EINVAL
					case cmd == 0:
					case !can:
						want = api.ENOTCAPABLE
					case cmd == 4 && arg != 0 && arg != nonblock, cmd == 6 && arg < 0:
						want = api.EINVAL
					}
					if got := Call(w, first, req(fcntl, "", pipeR, cmd, arg)); got.Err != want {
						t.Errorf("fcntl %d %d with %d, right %v: %v, not %v", cmd, arg, mask, right&api.CapFcntl, got, want)
					}
				}
			}
		}
	}
	spoilt := slots.Full(1)
	spoilt.Rights = api.CapAll &^ api.CapFcntl // no limit makes one with the commands, but not the right
	w := scene(t)
	fd := w.Open(first, api.KDir, 1, 0, spoilt)
	doing(t, w, []row{{req(fcntl, "", fd, 3), "ENOTCAPABLE"}, {req(fcntl, "", fd, 5), "ENOTCAPABLE"}, {req(fcntl, "", fd, 7), "EINVAL"}, {req(fcntl, "", fd, 0, 0), "31 -dir1@0,0x1 +dir1@0,0x2 +1.31:dir1,0" + like(spoilt)}})
}

// P19.4: ioctl 1 tells how many bytes can be read at once.
func TestIoctlReady(t *testing.T) {
	want := map[int]string{fullR: "8", fullW: "8", someR: "3", someW: "3", leftR: "2", sent: "5", full: "8", left: "2"}
	for _, fd := range []int{fileR, fileW, fileB, fileA, again, other} {
		want[fd] = "5"
	}
	for _, arg := range []int{0, 1, 7, -1, math.MaxInt, math.MinInt} {
		eachOf(t, asIs, req(ioctl, "", 0, 1, arg), "0", want)
	}
	for off, want := range map[int]string{0: "5", 1: "4", 4: "1", 5: "0", 6: "0", api.MaxFile: "0", math.MaxInt: "0"} {
		rowsOf(t, stands(fileW, off), []row{{req(ioctl, "", fileW, 1, 0), want}, {req(ioctl, "", fileB, 1, 0), "5"}})
	}
	rowsOf(t, stands(dir, 1), []row{{req(ioctl, "", dir, 1, 0), "0"}})
}

// P19.4: ioctl 2 sets ONonblock, or not; other commands there are none of.
func TestIoctl(t *testing.T) {
	for fd := range free {
		w := scene(t)
		_, f, _ := w.Look(first, fd, 0)
		for _, x := range []struct{ arg, flags int }{{1, f.Flags | nonblock}, {1, f.Flags | nonblock}, {0, f.Flags}, {0, f.Flags}} {
			got := Call(w, first, req(ioctl, "", fd, 2, x.arg))
			if _, f, _ := w.Look(first, fd, 0); got.Err != api.OK || got.Val != 0 || f.Flags != x.flags {
				t.Errorf("%d: %d: %v, flags %d, not %d", fd, x.arg, got, f.Flags, x.flags)
			}
		}
		for _, arg := range []int{2, -1, nonblock, math.MaxInt, math.MinInt} {
			if got := outcome(w, first, req(ioctl, "", fd, 2, arg)); got != "EINVAL" {
				t.Errorf("%d: %d: %s", fd, arg, got)
			}
		}
		for _, cmd := range []int{0, 3, 4, 64, 1 << 32, math.MaxInt} {
			for _, arg := range []int{0, 1, 2, -1} {
				if got := outcome(w, first, req(ioctl, "", fd, cmd, arg)); got != "ENOTTY" {
					t.Errorf("%d: %d %d: %s", fd, cmd, arg, got)
				}
			}
		}
		for _, cmd := range []int{-1, -2, math.MinInt} { // no whitelist has a command below 0
			if got := outcome(w, first, req(ioctl, "", fd, cmd, 0)); got != "ENOTCAPABLE" {
				t.Errorf("%d: %d: %s", fd, cmd, got)
			}
		}
	}
}

// P19.4: a command of ioctl has to be in the whitelist; that is told ahead of all but that the right is missing.
func TestIoctlCan(t *testing.T) {
	for _, l := range [][]int{{}, {1}, {2}, {1, 2}, {3}, {0, 3, 7}, {0, 1, 2, 3, 4, 5, 6, 7}} {
		has := func(cmd int) bool { return strings.Contains(fmt.Sprint(l), fmt.Sprint(cmd)) }
		for _, fd := range []int{fileR, dir, pipeR, pipeW, one, proc} {
			for cmd := range 8 {
				for _, arg := range []int{0, 1, 2} {
					w := scene(t)
					must(t, "limit", w.Slots(first).LimitIoctls(fd, l))
					want := api.OK
					switch {
					case !has(cmd):
						want = api.ENOTCAPABLE
					case cmd != 1 && cmd != 2:
						want = api.ENOTTY
					case cmd == 2 && arg == 2:
						want = api.EINVAL
					}
					if got := Call(w, first, req(ioctl, "", fd, cmd, arg)); got.Err != want {
						t.Errorf("%d: ioctl %d %d with %v: %v, not %v", fd, cmd, arg, l, got, want)
					}
				}
			}
		}
	}
	spoilt := slots.Full(1)
	spoilt.Rights = api.CapAll &^ api.CapIoctl // no limit makes one with the commands, but not the right
	w := scene(t)
	fd := w.Open(first, api.KFile, inoF, 0, spoilt)
	doing(t, w, []row{{req(ioctl, "", fd, 1), "ENOTCAPABLE"}, {req(ioctl, "", fd, 2, 2), "ENOTCAPABLE"}})
}
