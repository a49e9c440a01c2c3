package ipccalls

import (
	"fmt"
	"math"
	"slices"
	"strings"
	"testing"

	"purlieu/api"
	"purlieu/slots"
	"purlieu/world"
)

// nonblocks lets all open files of a world have ONonblock.
func nonblocks(w *world.World) {
	for _, f := range w.Files().Dump() {
		w.Files().SetFlags(f.ID, f.Flags|nonblock)
	}
}

// P20.4: send from each descriptor: nothing, bytes, more than there is room for.
func TestSend(t *testing.T) {
	eachOf(t, asIs, sends(0, ""), "0", map[int]string{fresh: "ENOTCONN", freshN: "ENOTCONN", bound: "ENOTCONN", door: "ENOTCONN", doorN: "ENOTCONN", busy: "ENOTCONN"})
	eachOf(t, asIs, sends(0, "", file), "EINVAL", nil)
	for _, x := range []struct{ s, fits, some string }{{"a", "a", "a"}, {"ab", "ab", "ab"}, {"abcdefgh", "abcdefgh", "abc"}, {"abcdefghi", "abcdefgh", "abc"}, {strings.Repeat("abcdefgh", 32), "abcdefgh", "abc"}} {
		lies := func(to string) string { return fmt.Sprintf("%d -%s +%s=%s+0", len(x.fits), to, to, x.fits) }
		want := map[int]string{
			waiting: lies("s10-9"), one: lies("s12-11"), two: lies("s11-12"), shutR: lies("s20-19"), hears: lies("s21-22!w"), oneN: lies("s24-23"), twoN: lies("s23-24"), // to the other end
			full: fmt.Sprintf("%d -s13-14=abc+2,de+1 +s13-14=abc+2,de%s+1", len(x.some), x.some),
			sent: "EWAIT", left: "EPIPE", alone: "EPIPE", talks: "EPIPE", shutW: "EPIPE",
		}
		eachOf(t, asIs, sends(0, x.s), "ENOTCONN", want)
		want[sent] = "EAGAIN"
		eachOf(t, nonblocks, sends(0, x.s), "ENOTCONN", map[int]string{sent: "EAGAIN", left: "EPIPE", alone: "EPIPE", talks: "EPIPE", shutW: "EPIPE",
			waiting: want[waiting], one: want[one], two: want[two], shutR: want[shutR], hears: want[hears], oneN: want[oneN], twoN: want[twoN], full: want[full]})
	}
}

// P20.4: descriptors that are sent with bytes are named once more each, as the ones that wait: in a part of their own, of as many bytes as there is room for.
func TestSendDescriptors(t *testing.T) {
	rowsOf(t, first, asIs, []row{
		{sends(one, "a", file), "1 -file4,2x4 -s12-11 +file4,2x5 +s12-11=a+1"},
		{sends(one, "ab", file, pipeR), "2 -file4,2x4 -pipe1,0x3 -s12-11 +file4,2x5 +pipe1,0x4 +s12-11=ab+2"},
		{sends(one, "a", file, file), "1 -file4,2x4 -s12-11 +file4,2x6 +s12-11=a+2"},
		{sends(one, "a", one), "1 -sock11,2x3 -s12-11 +sock11,2x4 +s12-11=a+1"},
		{sends(one, "a", two), "1 -sock12,2x3 -s12-11 +sock12,2x4 +s12-11=a+1"},
		{sends(one, "a", proc), "1 -proc2,0x4 -s12-11 +proc2,0x5 +s12-11=a+1"},
		{sends(one, "a", busy, fresh, left), "1 -sock1,2x3 -sock6,2x3 -sock15,2x3 -s12-11 +sock1,2x4 +sock6,2x4 +sock15,2x4 +s12-11=a+3"},
		{sends(one, "abcdefghi", one, one, one, one), "8 -sock11,2x3 -s12-11 +sock11,2x7 +s12-11=abcdefgh+4"},
		{sends(full, "x", root), "1 -dir1,0x3 -s13-14=abc+2,de+1 +dir1,0x4 +s13-14=abc+2,de+1,x+1"},
		{sends(full, "wxyz", root), "3 -dir1,0x3 -s13-14=abc+2,de+1 +dir1,0x4 +s13-14=abc+2,de+1,wxy+1"},
		{sends(sent, "x", root), "EWAIT"}, {sends(left, "x", root), "EPIPE"}, {sends(talks, "x", root), "EPIPE"}, {sends(fresh, "x", root), "ENOTCONN"}, {sends(door, "x", root), "ENOTCONN"}, {sends(one, "", root), "EINVAL"},
	})
	rowsOf(t, first, nonblocks, []row{{sends(sent, "x", root), "EAGAIN"}})
	less := func(w *world.World) { // neither what is passed nor through what needs more rights
		for _, pid := range []int{first, capable} {
			must(t, "limit", w.Slots(pid).Limit(file, 0))
			must(t, "limit", w.Slots(pid).Limit(one, api.CapWrite))
		}
	}
	for _, pid := range []int{first, capable} {
		rowsOf(t, pid, less, []row{{sends(one, "a", file), "1 -file4,2x4 -s12-11 +file4,2x5 +s12-11=a+1"}, {sends(one, "a", one), "1 -sock11,2x3 -s12-11 +sock11,2x4 +s12-11=a+1"}})
	}
}

// P20.4: one that is no descriptor of the process is told ahead of all but the socket's own, wherever it stands; the others are not passed.
func TestSendNoDescriptor(t *testing.T) {
	w := scene(t)
	if _, e := w.Dup(second, file, free); e != api.OK {
		t.Fatal(e)
	}
	for _, bad := range []int{free, most, beyond, beyond + 1, -1, cwd, 64, 256, 1 << 32, math.MaxInt, math.MinInt} {
		for _, l := range [][]int{{bad}, {file, bad}, {bad, file}, {file, dir, pipeW, bad}, {file, bad, file, bad}} {
			for _, fd := range []int{fresh, door, one, sent, left, alone, talks, shutW, oneN} {
				for _, s := range []string{"", "a", "abcdefghi"} {
					for _, pid := range []int{first, capable} {
						if got := outcome(w, pid, sends(fd, s, l...)); got != "EBADF" {
							t.Errorf("%d: %s with %v from %d: %s", pid, s, l, fd, got)
						}
					}
				}
			}
			for fd, want := range map[int]string{file: "ENOTSOCK", free: "EBADF", dir: "ENOTSOCK"} {
				if got := outcome(w, first, sends(fd, "a", l...)); got != want {
					t.Errorf("%v from %d: %s, not %s", l, fd, got, want)
				}
			}
		}
	}
	if got := outcome(w, second, sends(one, "a", free)); got != "1 -file4,2x5 -s12-11 +file4,2x6 +s12-11=a+1" {
		t.Error(got)
	}
}

// P20.4: when as many parts wait as may, nothing is passed any more; bytes alone are the last part's.
func TestSendParts(t *testing.T) {
	w := world.New(api.Limits{Procs: 1, Fds: 4, Files: 4, Inodes: 1, Blocks: 0, Pipe: 1, Sock: 64})
	try := func(r api.Req, want string) {
		t.Helper()
		if got := outcome(w, first, r); strings.Split(got, " ")[0] != want {
			t.Fatalf("%v: %s, not %s", r, got, want)
		}
	}
	try(req(socketpair, ""), "0")
	for range api.MaxParts {
		try(sends(0, "a", 1), "1")
	}
	try(sends(0, "a", 1), "EWAIT")
	try(sends(0, "bc"), "2")
	try(req(recv, "", 1, 1, 0), "1")
	try(sends(0, "ab", 0, 1), "2")
	try(sends(0, "a", 0), "EWAIT")
	must(t, "flags", w.Files().SetFlags(1, nonblock))
	try(sends(0, "a", 0), "EAGAIN")
	for i := range 2*api.MaxParts + 13 {
		try(sends(0, "d"), map[bool]string{true: "1", false: "EAGAIN"}[i < 64-19])
	}
}

// P20.4: recv from each descriptor: nothing, less and more than waits.
func TestRecv(t *testing.T) {
	none := map[int]string{fresh: "ENOTCONN", freshN: "ENOTCONN", bound: "ENOTCONN", door: "ENOTCONN", doorN: "ENOTCONN", busy: "ENOTCONN"}
	with := func(m map[int]string) map[int]string {
		for fd, e := range none {
			m[fd] = e
		}
		return m
	}
	for most := range 5 {
		eachOf(t, asIs, req(recv, "", 0, 0, most), "0", none)
	}
	shut := map[int]string{left: "1 x -proc2,0x4 -s15-0=xy+1 +proc2,0x3 +s15-0=y+0", alone: "0", shutR: "0", talks: "EWAIT", hears: "0", shutW: "EWAIT", oneN: "EAGAIN", twoN: "EAGAIN"}
	shut[sent] = "1 a -file4,2x4 -pipe1,1x4 -s13-14=abc+2,de+1 +file4,2x3 +pipe1,1x3 +s13-14=bc+0,de+1"
	shut[full] = "1 1 -s14-13=12345678+0 +s14-13=2345678+0"
	eachOf(t, asIs, req(recv, "", 0, 1, 0), "EWAIT", with(shut))
	shut[left] = "2 xy -proc2,0x4 -s15-0=xy+1 +proc2,0x3 +s15-0"
	shut[sent] = "2 ab -file4,2x4 -pipe1,1x4 -s13-14=abc+2,de+1 +file4,2x3 +pipe1,1x3 +s13-14=c+0,de+1"
	shut[full] = "2 12 -s14-13=12345678+0 +s14-13=345678+0"
	eachOf(t, asIs, req(recv, "", 0, 2, 0), "EWAIT", with(shut))
	for _, n := range []int{9, 256} {
		shut[sent] = "3 abc -file4,2x4 -pipe1,1x4 -s13-14=abc+2,de+1 +file4,2x3 +pipe1,1x3 +s13-14=de+1"
		shut[full] = "8 12345678 -s14-13=12345678+0 +s14-13"
		eachOf(t, asIs, req(recv, "", 0, n, 0), "EWAIT", with(shut))
	}
	for _, most := range []int{1, 2, 3, 4} {
		shut[left] = "2 xy [26] -s15-0=xy+1 +s15-0 +1.26:proc2,0"
		shut[sent] = "3 abc [26 27] -s13-14=abc+2,de+1 +s13-14=de+1 +1.26:file4,2;read,fcntl,stat,ioctl;1,7;8 +1.27:pipe1,1"
		if most == 1 {
			shut[sent] = "3 abc [26] -pipe1,1x4 -s13-14=abc+2,de+1 +pipe1,1x3 +s13-14=de+1 +1.26:file4,2;read,fcntl,stat,ioctl;1,7;8"
		}
		eachOf(t, asIs, req(recv, "", 0, 9, most), "EWAIT", with(shut))
	}
	for _, fd := range []int{waiting, one, two, talks, shutW} {
		shut[fd] = "EAGAIN"
	}
	eachOf(t, nonblocks, req(recv, "", 0, 9, 0), "", with(map[int]string{left: "2 xy -proc2,4x4 -s15-0=xy+1 +proc2,4x3 +s15-0", sent: "3 abc -file4,6x4 -pipe1,5x4 -s13-14=abc+2,de+1 +file4,6x3 +pipe1,5x3 +s13-14=de+1",
		full: "8 12345678 -s14-13=12345678+0 +s14-13", alone: "0", shutR: "0", hears: "0", waiting: "EAGAIN", one: "EAGAIN", two: "EAGAIN", talks: "EAGAIN", shutW: "EAGAIN", oneN: "EAGAIN", twoN: "EAGAIN"}))
}

// P20.4: what is passed comes with the first bytes of its part; what is left of that comes without.
func TestRecvInTurn(t *testing.T) {
	inTurn(t, asIs, []row{
		{req(recv, "", sent, 1, 1), "1 a [26] -pipe1,1x4 -s13-14=abc+2,de+1 +pipe1,1x3 +s13-14=bc+0,de+1 +1.26:file4,2;read,fcntl,stat,ioctl;1,7;8"},
		{req(recv, "", sent, 1, 4), "1 b -s13-14=bc+0,de+1 +s13-14=c+0,de+1"},
		{sends(full, "f"), "1 -s13-14=c+0,de+1 +s13-14=c+0,def+1"},
		{req(recv, "", sent, 9, 4), "1 c -s13-14=c+0,def+1 +s13-14=def+1"},
		{req(recv, "", sent, 9, 4), "3 def [27] -s13-14=def+1 +s13-14 +1.27:dir2,0"},
	})
	inTurn(t, asIs, []row{
		{req(recv, "", sent, 3, 4), "3 abc [26 27] -s13-14=abc+2,de+1 +s13-14=de+1 +1.26:file4,2;read,fcntl,stat,ioctl;1,7;8 +1.27:pipe1,1"},
		{sends(full, "fg", 26), "2 -file4,2x4 -s13-14=de+1 +file4,2x5 +s13-14=de+1,fg+1"},
		{req(recv, "", sent, 9, 4), "2 de [28] -s13-14=de+1,fg+1 +s13-14=fg+1 +1.28:dir2,0"},
		{sends(full, "h"), "1 -s13-14=fg+1 +s13-14=fgh+1"},
		{req(recv, "", sent, 2, 0), "2 fg -file4,2x5 -s13-14=fgh+1 +file4,2x4 +s13-14=h+0"},
		{sends(full, "ij"), "2 -s13-14=h+0 +s13-14=hij+0"},
		{req(recv, "", sent, 9, 4), "3 hij -s13-14=hij+0 +s13-14"},
		{req(recv, "", sent, 9, 4), "EWAIT"},
	})
}

// P20.4: descriptors that are to be given need room; without it nothing is taken.
func TestRecvRoom(t *testing.T) {
	for fds := range 4 {
		for most := range 5 {
			for n := range 5 {
				want := ""
				switch {
				case n == 0:
					want = "0"
				case fds < min(most, 2):
					want = "EMFILE"
				}
				for fd, want := range map[int]string{sent: want, one: map[bool]string{true: "0", false: "EWAIT"}[n == 0], oneN: map[bool]string{true: "0", false: "EAGAIN"}[n == 0], fresh: "ENOTCONN", alone: "0", full: fmt.Sprint(n)} {
					w := scene(t)
					spare(t, w, first, fds, 0) // room for open files plays no part
					got := outcome(w, first, req(recv, "", fd, n, most))
					if want != "" && strings.Split(got, " ")[0] != want || want == "" && !strings.HasPrefix(got, fmt.Sprint(min(n, 3), " abc"[:min(n, 3)+1])) {
						t.Errorf("recv of %d, %d from %d with %d free: %s, not %s", n, most, fd, fds, got, want)
					}
				}
			}
		}
	}
}

// P20.4: the least free descriptors are given, in the order in which they were passed.
func TestRecvOrder(t *testing.T) {
	holes := func(w *world.World) {
		if x := Call(w, first, sends(one, "p", pipeW, file, pipeR, dir)); x.Err != api.OK {
			t.Fatal(x)
		}
		for _, fd := range []int{root, pipeR, left} {
			must(t, "close", w.Close(first, fd))
		}
	}
	rowsOf(t, first, holes, []row{
		{req(recv, "", two, 9, 4), "1 p [0 4 17 26] -s12-11=p+4 +s12-11 +1.0:pipe1,1 +1.4:file4,2 +1.17:pipe1,0 +1.26:dir2,0"},
		{req(recv, "", two, 9, 2), "1 p [0 4] -dir2,0x5 -pipe1,0x3 -s12-11=p+4 +dir2,0x4 +pipe1,0x2 +s12-11 +1.0:pipe1,1 +1.4:file4,2"},
	})
	rowsOf(t, second, holes, []row{{req(recv, "", two, 9, 4), "1 p [26 27 28 29] -s12-11=p+4 +s12-11 +2.26:pipe1,1 +2.27:file4,2 +2.28:pipe1,0 +2.29:dir2,0"}})
}

// P20.4: what nobody asks for is let go of behind what is given: also when that ends the process itself.
func TestRecvDrops(t *testing.T) {
	last := func(l ...int) func(w *world.World) {
		return func(w *world.World) {
			for _, x := range []api.Req{req(pipe, ""), sends(one, "p", l...)} {
				if y := Call(w, first, x); y.Err != api.OK {
					t.Fatal(y)
				}
			}
			must(t, "close", w.Close(first, 26))
			must(t, "close", w.Close(first, 27))
		}
	}
	rowsOf(t, first, last(26, 27), []row{
		{req(recv, "", two, 9, 0), "1 p -pipe2,0x1 -pipe2,1x1 -p2,true,true= -s12-11=p+2 +s12-11"},
		{req(recv, "", two, 9, 1), "1 p [26] -pipe2,1x1 -p2,true,true= -s12-11=p+2 +p2,true,false= +s12-11 +1.26:pipe2,0"},
		{req(recv, "", two, 9, 2), "1 p [26 27] -s12-11=p+2 +s12-11 +1.26:pipe2,0 +1.27:pipe2,1"},
	})
	itself := func(w *world.World) {
		last(26, proc, 27)(w)
		for _, pid := range []int{first, second, capable} {
			must(t, "close", w.Close(pid, proc))
		}
		Call(w, first, req(recv, "", left, 2, 0))
	}
	w := scene(t)
	itself(w)
	x := Call(w, second, req(recv, "", two, 9, 1))
	d := w.Dump()
	if x.Err != api.OK || x.Val != 1 || x.S != "p" || !slices.Equal(x.L, []int{left}) && !slices.Equal(x.L, []int{proc}) {
		t.Error(x)
	}
	if p, _ := w.Procs().Get(second); p.Pid != 0 || len(d.Pipes) != 1 {
		t.Error("the process is there, or what it was given", d.Pipes)
	}
	for _, f := range d.Files {
		if f.Kind == api.KPipe && f.Obj == 2 || f.Kind == api.KProc {
			t.Error("nobody has", f)
		}
	}
}

// P20.4, P20.6: a descriptor that is sent through its own end goes round.
func TestSendItself(t *testing.T) {
	inTurn(t, asIs, []row{
		{sends(one, "a", one, two), "1 -sock11,2x3 -sock12,2x3 -s12-11 +sock11,2x4 +sock12,2x4 +s12-11=a+2"},
		{req(recv, "", two, 9, 4), "1 a [26 27] -s12-11=a+2 +s12-11 +1.26:sock11,2 +1.27:sock12,2"},
		{sends(26, "b", 26), "1 -sock11,2x4 -s12-11 +sock11,2x5 +s12-11=b+1"},
		{req(recv, "", 27, 9, 0), "1 b -sock11,2x5 -s12-11=b+1 +sock11,2x4 +s12-11"},
	})
}

// slot answers a descriptor.
func slot(t *testing.T, w *world.World, pid, fd int) api.Slot {
	t.Helper()
	s, _, e := w.Look(pid, fd, 0)
	must(t, "look", e)
	return s
}

// equal tells whether two descriptors are of one open file, with the same rights and whitelists.
func equal(a, b api.Slot) bool {
	return a.File == b.File && a.Rights == b.Rights && a.Fcntls == b.Fcntls && a.Ioctls.All == b.Ioctls.All && slices.Equal(a.Ioctls.L, b.Ioctls.L)
}

// P20.6: what is received is what was sent, from hand to hand, whatever rights it has, and though the one that was sent is closed or made less meanwhile.
func TestPassedOn(t *testing.T) {
	limits := []func(s *slots.Table, fd int){
		func(*slots.Table, int) {},
		func(s *slots.Table, fd int) { s.Limit(fd, 0) },
		func(s *slots.Table, fd int) { s.Limit(fd, api.CapRead|api.CapIoctl) },
		func(s *slots.Table, fd int) { s.Limit(fd, api.CapAll&^api.CapIoctl) },
		func(s *slots.Table, fd int) { s.LimitIoctls(fd, nil) },
		func(s *slots.Table, fd int) { s.LimitIoctls(fd, []int{0, 5, 31}) },
		func(s *slots.Table, fd int) { s.LimitFcntls(fd, 0) },
		func(s *slots.Table, fd int) { s.LimitFcntls(fd, api.FcntlSetfl|api.FcntlGetown) },
		func(s *slots.Table, fd int) {
			s.Limit(fd, api.CapWrite|api.CapIoctl|api.CapFcntl)
			s.LimitIoctls(fd, []int{2})
			s.LimitFcntls(fd, api.FcntlGetfl)
		},
	}
	for fd := range free {
		if fd == one { // through which all the others go
			continue
		}
		for i, limit := range limits {
			w := scene(t)
			limit(w.Slots(first), fd)
			want := slot(t, w, first, fd)
			got := hop(t, w, first, one, fd, second, two)
			if i%2 == 0 {
				must(t, "limit", w.Slots(first).Limit(fd, 0))
			}
			if !equal(slot(t, w, second, got), want) {
				t.Errorf("%d, limited by %d: %v, not %v", fd, i, slot(t, w, second, got), want)
			}
			got = hop(t, w, second, oneN, got, capable, twoN)
			if !equal(slot(t, w, capable, got), want) {
				t.Errorf("%d, limited by %d, passed on: %v, not %v", fd, i, slot(t, w, capable, got), want)
			}
		}
	}
}

// hop lets a process send a descriptor, close it, and another one receive it, which is answered.
func hop(t *testing.T, w *world.World, from, out, fd, to, in int) int {
	t.Helper()
	was := slot(t, w, from, fd)
	f, _ := w.Files().Get(was.File)
	if x := Call(w, from, sends(out, "x", fd)); x.Err != api.OK || x.Val != 1 {
		t.Fatal(fd, x)
	}
	if g, _ := w.Files().Get(was.File); g.Refs != f.Refs+1 {
		t.Error(f, g)
	}
	if fd >= free {
		must(t, "close", w.Close(from, fd))
	}
	f, _ = w.Files().Get(was.File)
	x := Call(w, to, req(recv, "", in, 1, 1))
	if x.Err != api.OK || x.S != "x" || len(x.L) != 1 {
		t.Fatal(fd, x)
	}
	if g, _ := w.Files().Get(was.File); g.Refs != f.Refs {
		t.Error(f, g)
	}
	return x.L[0]
}

// P20.6: a descriptor that is sent with less rights than the socket that it goes through, or the other way round, has its own.
func TestPassedHasItsOwn(t *testing.T) {
	limit := func(w *world.World) {
		must(t, "limit", w.Slots(first).Limit(one, api.CapWrite))
		must(t, "limit", w.Slots(second).Limit(two, api.CapRead))
		must(t, "enter", w.Procs().Enter(second))
	}
	w := scene(t)
	limit(w)
	for i, x := range []struct {
		pid  int
		r    api.Req
		want string
	}{
		{first, sends(one, "a", one, pipeW), "1 -pipe1,1x4 -sock11,2x3 -s12-11 +pipe1,1x5 +sock11,2x4 +s12-11=a+2"},
		{second, req(recv, "", two, 9, 4), "1 a [26 27] -s12-11=a+2 +s12-11 +2.26:sock11,2;write;none;0 +2.27:pipe1,1"},
		{second, sends(26, "b", 26, two), "1 -sock11,2x4 -sock12,2x3 -s12-11 +sock11,2x5 +sock12,2x4 +s12-11=b+2"},
		{capable, req(recv, "", two, 9, 4), "1 b [26 27] -s12-11=b+2 +s12-11 +3.26:sock11,2;write;none;0 +3.27:sock12,2;read;none;0"},
		{capable, req(recv, "", 26, 9, 4), "ENOTCAPABLE"}, {capable, sends(27, "c"), "ENOTCAPABLE"}, {capable, sends(26, "c"), "1 -s12-11 +s12-11=c+0"}, {capable, req(recv, "", 27, 9, 4), "1 c -s12-11=c+0 +s12-11"},
	} {
		if got := outcome(w, x.pid, x.r); got != x.want {
			t.Errorf("%d: %s, not %s", i, got, x.want)
		}
	}
}

// P20.5: what would wait and what tells an error changes nothing, how often it is asked; and it is told again.
func TestAskedAgain(t *testing.T) {
	t.Parallel()
	w, v := scene(t), scene(t)
	was := w.Dump()
	asks := 0
	for fd := -1; fd <= free; fd++ {
		for _, r := range requests(fd) {
			x := Call(v, first, r)
			if x.Err == api.OK {
				v = scene(t)
				continue
			}
			asks++
			for range 2 {
				if y := Call(w, first, r); y.Err != x.Err || y.Val != 0 || y.S != "" || len(y.L) > 0 {
					t.Fatalf("%v: %v, and then %v", r, x, y)
				}
			}
		}
	}
	if !alike(was, w.Dump()) {
		t.Error("something is changed")
	}
	if asks < 1000 {
		t.Errorf("just %d errors", asks)
	}
}
