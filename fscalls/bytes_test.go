package fscalls

import (
	"fmt"
	"strings"
	"testing"

	"purlieu/api"
	"purlieu/slots"
	"purlieu/world"
)

// P19.2: read of each kind of descriptor: bytes, none, errors, and that it would wait.
func TestRead(t *testing.T) {
	eachOf(t, asIs, req(read, "", 0, 4), "EBADF", map[int]string{
		fileR: "4 hell -file3@0,0x4 +file3@4,0x4", fileB: "4 hell -file3@0,2x7 +file3@4,2x7", fileA: "4 hell -file3@0,10x3 +file3@4,10x3",
		again: "4 hell -file3@0,2x7 +file3@4,2x7", other: "4 hell -file3@0,2x3 +file3@4,2x3",
		dir: "EISDIR", gone: "EISDIR", proc: "EOPNOTSUPP", pipeR: "EWAIT",
		fullR: "4 1234 -p2,true,true=12345678 +p2,true,true=5678", someR: "3 abc -p3,true,true=abc +p3,true,true=", leftR: "2 xy -p4,true,false=xy +p4,true,false=", emptyR: "0",
		fresh: "ENOTCONN", listens: "ENOTCONN", one: "EWAIT", two: "EWAIT", talks: "EWAIT", shutW: "EWAIT",
		sent: "3 abc -file3@0,0x4 -file3@0,2x7 -s5-6=abc+2 de+1 +file3@0,0x3 +file3@0,2x6 +s5-6=de+1",
		full: "4 1234 -s6-5=12345678+0 +s6-5=5678+0", left: "2 xy -s7-0=xy+0 +s7-0=", alone: "0", shutR: "0", hears: "0",
	})
	none := map[int]string{dir: "EISDIR", gone: "EISDIR", proc: "EOPNOTSUPP", fresh: "ENOTCONN", listens: "ENOTCONN"}
	for _, fd := range []int{fileW, pipeW, fullW, someW, lostW} {
		none[fd] = "EBADF"
	}
	eachOf(t, asIs, req(read, "", 0, 0), "0", none)
}

// P19.1, P19.2: with ONonblock what would wait tells EAGAIN; nothing else is told otherwise.
func TestReadNonblock(t *testing.T) {
	for fd := range free {
		for n := range 6 {
			r := req(read, "", fd, n)
			w, v := scene(t), scene(t)
			flagged(nonblock)(v)
			a, b := Call(w, first, r), Call(v, first, r)
			if a.Err == api.EWAIT {
				a.Err = api.EAGAIN
			}
			if fmt.Sprint(a) != fmt.Sprint(b) {
				t.Errorf("%v: %v, with ONonblock %v", r, a, b)
			}
		}
	}
	for _, fd := range []int{pipeR, one, two, talks, shutW} {
		for flags, want := range map[int]string{0: "EWAIT", app: "EWAIT", nonblock: "EAGAIN", nonblock | app: "EAGAIN"} {
			rowsOf(t, flagged(flags), []row{{req(read, "", fd, 1), want}, {req(read, "", fd, api.MaxIO), want}, {req(read, "", fd, 0), "0"}})
		}
	}
}

// P19.2: a file is read from where it stands, up to its end.
func TestReadFile(t *testing.T) {
	for _, x := range []struct {
		off, n int
		want   string
	}{
		{0, 1, "1 h -file3@0,2x7 +file3@1,2x7"}, {0, 5, "5 hello -file3@0,2x7 +file3@5,2x7"}, {0, 6, "5 hello -file3@0,2x7 +file3@5,2x7"},
		{2, 2, "2 ll -file3@2,2x7 +file3@4,2x7"}, {2, 9, "3 llo -file3@2,2x7 +file3@5,2x7"}, {4, 1, "1 o -file3@4,2x7 +file3@5,2x7"}, {2, 0, "0"},
		{5, 1, "0"}, {6, 1, "0"}, {api.MaxFile, 9, "0"}, {1 << 62, 9, "0"},
	} {
		rowsOf(t, stands(fileB, x.off), []row{{req(read, "", fileB, x.n), x.want}, {req(read, "", again, x.n), x.want}})
	}
}

// P19.2: two descriptors of one open file go on together; two open files of one inode do not, and neither do two processes'.
func TestReadTogether(t *testing.T) {
	w := scene(t)
	for i, x := range []struct {
		pid, fd int
		want    string
	}{
		{first, fileB, "he"}, {first, again, "ll"}, {first, other, "he"}, {second, fileB, "o"}, {capable, other, "ll"}, {first, fileR, "he"}, {first, fileB, ""}, {second, other, "o"}, {capable, fileR, "ll"}, {first, fileA, "he"},
	} {
		if got := Call(w, x.pid, req(read, "", x.fd, 2)); got.Err != api.OK || got.S != x.want || got.Val != len(x.want) {
			t.Errorf("%d: %v, not %s", i, got, x.want)
		}
	}
}

// P19.2: a pipe's bytes are taken once, whoever reads them; when its writing end is closed they are told still, and then none.
func TestReadPipe(t *testing.T) {
	w := scene(t)
	for i, x := range []struct {
		pid  int
		r    api.Req
		want string
	}{
		{first, req(read, "", someR, 1), "1 a -p3,true,true=abc +p3,true,true=bc"},
		{second, req(read, "", someR, 9), "2 bc -p3,true,true=bc +p3,true,true="},
		{capable, req(read, "", someR, 9), "EWAIT"},
		{first, req(closes, "", someW), "0 -pipe3@0,1x3 -1.13:pipe3,1 +pipe3@0,1x2"},
		{second, req(write, "d", someW), "1 -p3,true,true= +p3,true,true=d"},
		{second, req(closes, "", someW), "0 -pipe3@0,1x2 -2.13:pipe3,1 +pipe3@0,1x1"},
		{capable, req(closes, "", someW), "0 -pipe3@0,1x1 -p3,true,true=d -3.13:pipe3,1 +p3,true,false=d"},
		{capable, req(read, "", someR, 9), "1 d -p3,true,false=d +p3,true,false="},
		{first, req(read, "", someR, 9), "0"},
	} {
		if got := outcome(w, x.pid, x.r); got != x.want {
			t.Errorf("%d: %s, not %s", i, got, x.want)
		}
	}
}

// P19.2: of what waits in a socket a read takes that of the first part; what was passed is dropped, also if just its first byte is read.
func TestReadPassed(t *testing.T) {
	w := scene(t)
	for i, x := range []row{
		{req(read, "", sent, 0), "0"},
		{req(read, "", sent, 1), "1 a -file3@0,0x4 -file3@0,2x7 -s5-6=abc+2 de+1 +file3@0,0x3 +file3@0,2x6 +s5-6=bc+0 de+1"},
		{req(read, "", sent, 9), "2 bc -s5-6=bc+0 de+1 +s5-6=de+1"},
		{req(write, "fg", full), "2 -s5-6=de+1 +s5-6=defg+1"},
		{req(read, "", sent, 3), "3 def -dir2@0,0x4 -s5-6=defg+1 +dir2@0,0x3 +s5-6=g+0"},
		{req(read, "", sent, 3), "1 g -s5-6=g+0 +s5-6="},
		{req(read, "", sent, 3), "EWAIT"},
	} {
		if got := outcome(w, first, x.r); got != x.want {
			t.Errorf("%d: %s, not %s", i, got, x.want)
		}
	}
}

// P19.2: what nobody else names any more is gone with the read that drops it: a pipe's end, a socket, a process.
func TestReadLastPassed(t *testing.T) {
	w := scene(t)
	_, f, _ := w.Look(first, one, 0)
	if _, e := w.Socks().Send(f.Obj, []byte("z"), passes(t, w, lostW, leftR, proc, fresh)); e != api.OK {
		t.Fatal(e)
	}
	for pid := first; pid <= capable; pid++ {
		for _, fd := range []int{lostW, leftR, proc, fresh} {
			w.Close(pid, fd)
		}
	}
	got := outcome(w, first, req(read, "", two, 9))
	for _, line := range []string{"1 z", "-pipe6@0,1x1", "-p6,false,true=", "-pipe4@0,0x1", "-p4,true,false=xy", "-sock1@0,2x1", "-s1-0=", "-proc2@0,0x1", "-pid2,true,0@2", "-2.0:file3,0"} {
		if !strings.Contains(" "+got+" ", " "+line+" ") {
			t.Errorf("%s: without %s", got, line)
		}
	}
	if w.Procs().Lives(second) {
		t.Error("the process whose last descriptor was dropped lives")
	}
}

// P19.2: pread of each kind of descriptor.
func TestPread(t *testing.T) {
	want := map[int]string{fileW: "EBADF", dir: "EISDIR", gone: "EISDIR"}
	for _, fd := range []int{fileR, fileB, fileA, again, other} {
		want[fd] = "2 el"
	}
	eachOf(t, asIs, req(pread, "", 0, 2, 1), "ESPIPE", want)
	eachOf(t, flagged(nonblock), req(pread, "", 0, 2, 1), "ESPIPE", want)
	for _, off := range []int{0, 3, 9} {
		rowsOf(t, stands(fileB, off), []row{
			{req(pread, "", fileB, 9, 0), "5 hello"}, {req(pread, "", fileB, 5, 0), "5 hello"}, {req(pread, "", fileB, 4, 0), "4 hell"}, {req(pread, "", fileB, 0, 0), "0"}, {req(pread, "", fileB, 0, 3), "0"},
			{req(pread, "", fileB, 9, 3), "2 lo"}, {req(pread, "", fileB, 1, 4), "1 o"}, {req(pread, "", fileB, 1, 5), "0"}, {req(pread, "", fileB, 1, 6), "0"}, {req(pread, "", fileB, api.MaxIO, api.MaxFile), "0"},
			{req(pread, "", fileB, 1, 1<<40), "0"}, {req(pread, "", fileB, 1, 1<<40+1), "EINVAL"}, {req(pread, "", fileB, 1, -1), "EINVAL"},
		})
	}
}

// P19.3: write of each kind of descriptor: how many bytes, errors, and that it would wait.
func TestWrite(t *testing.T) {
	eachOf(t, asIs, req(write, "ab", 0), "EBADF", map[int]string{
		fileW: "2 -i3=hello,2,5,1 -file3@0,1x3 +i3=abllo,2,5,1 +file3@2,1x3", fileB: "2 -i3=hello,2,5,1 -file3@0,2x7 +i3=abllo,2,5,1 +file3@2,2x7",
		again: "2 -i3=hello,2,5,1 -file3@0,2x7 +i3=abllo,2,5,1 +file3@2,2x7", other: "2 -i3=hello,2,5,1 -file3@0,2x3 +i3=abllo,2,5,1 +file3@2,2x3",
		fileA: "2 -i3=hello,2,5,1 -file3@0,10x3 +i3=helloab,2,5,1 +file3@7,10x3", proc: "EOPNOTSUPP",
		pipeW: "2 -p1,true,true= +p1,true,true=ab", fullW: "EWAIT", someW: "2 -p3,true,true=abc +p3,true,true=abcab", lostW: "EPIPE",
		fresh: "ENOTCONN", listens: "ENOTCONN", one: "2 -s4-3= +s4-3=ab+0", two: "2 -s3-4= +s3-4=ab+0", sent: "EWAIT", full: "2 -s5-6=abc+2 de+1 +s5-6=abc+2 deab+1",
		left: "EPIPE", alone: "EPIPE", talks: "EPIPE", shutW: "EPIPE", shutR: "2 -s12-11= +s12-11=ab+0", hears: "2 -s13-14= +s13-14=ab+0",
	})
	none := map[int]string{fileA: "0 -file3@0,10x3 +file3@5,10x3", lostW: "EPIPE", fresh: "ENOTCONN", listens: "ENOTCONN", proc: "EOPNOTSUPP"}
	for _, fd := range []int{fileR, dir, gone, pipeR, fullR, someR, leftR, emptyR} {
		none[fd] = "EBADF"
	}
	eachOf(t, asIs, req(write, "", 0), "0", none)
}

// P19.1, P19.3: with ONonblock what would wait tells EAGAIN; nothing else is told otherwise.
func TestWriteNonblock(t *testing.T) {
	for fd := range free {
		for _, s := range []string{"", "a", "abcdefghij"} {
			r := req(write, s, fd)
			w, v := scene(t), scene(t)
			if fd != fileA { // the flag that it has plays a part
				flagged(nonblock)(v)
			}
			a, b := Call(w, first, r), Call(v, first, r)
			if a.Err == api.EWAIT {
				a.Err = api.EAGAIN
			}
			if fmt.Sprint(a) != fmt.Sprint(b) {
				t.Errorf("%v: %v, with ONonblock %v", r, a, b)
			}
		}
	}
	for _, fd := range []int{fullW, sent} {
		for flags, want := range map[int]string{0: "EWAIT", app: "EWAIT", nonblock: "EAGAIN", nonblock | app: "EAGAIN"} {
			rowsOf(t, flagged(flags), []row{{req(write, "a", fd), want}, {req(write, "abcdefghij", fd), want}, {req(write, "", fd), "0"}})
		}
	}
}

// P19.3: a file is written where it stands, and what lies between its end and there is 0; it stands behind then.
func TestWriteFile(t *testing.T) {
	for _, x := range []struct {
		off  int
		s    string
		want string
	}{
		{0, "HELLO!", "6 -i3=hello,2,5,1 -file3@0,2x7 +i3=HELLO!,2,5,1 +file3@6,2x7"}, {1, "a", "1 -i3=hello,2,5,1 -file3@1,2x7 +i3=hallo,2,5,1 +file3@2,2x7"},
		{4, "ab", "2 -i3=hello,2,5,1 -file3@4,2x7 +i3=hellab,2,5,1 +file3@6,2x7"}, {5, "a", "1 -i3=hello,2,5,1 -file3@5,2x7 +i3=helloa,2,5,1 +file3@6,2x7"},
		{7, "a", "1 -i3=hello,2,5,1 -file3@7,2x7 +i3=hello\x00\x00a,2,5,1 +file3@8,2x7"}, {7, "", "0"}, {api.MaxFile, "", "0"},
		{63, "a", "1 -i3=hello,2,5,1 -file3@63,2x7 +i3=hello" + zeros(58) + "a,2,5,1 +file3@64,2x7"}, {63, "ab", "2 -i3=hello,2,5,1 -file3@63,2x7 +i3=hello" + zeros(58) + "ab,2,5,2 +file3@65,2x7"},
		{63, strings.Repeat("a", 66), "ENOSPC"}, {64, strings.Repeat("a", 65), "ENOSPC"}, {64, "a", "1 -i3=hello,2,5,1 -file3@64,2x7 +i3=hello" + zeros(59) + "a,2,5,2 +file3@65,2x7"},
		{api.MaxFile - 1, "a", "1 -i3=hello,2,5,1 -file3@65535,2x7 +i3=hello" + zeros(api.MaxFile-6) + "a,2,5,2 +file3@65536,2x7"},
		{api.MaxFile - 1, "ab", "EFBIG"}, {api.MaxFile, "a", "EFBIG"}, {1 << 62, "a", "EFBIG"}, {1<<63 - 1, "a", "EFBIG"},
	} {
		rowsOf(t, stands(fileB, x.off), []row{{req(write, x.s, fileB), x.want}, {req(write, x.s, again), x.want}})
	}
}

// zeros are n bytes that are 0.
func zeros(n int) string { return strings.Repeat("\x00", n) }

// P19.3: with OAppend a file is written at its end, wherever it stands, and stands behind then.
func TestWriteAppend(t *testing.T) {
	for _, off := range []int{0, 2, 5, 9, api.MaxFile, 1 << 62} {
		at := fmt.Sprintf("file3@%d,10x3", off)
		rowsOf(t, stands(fileA, off), []row{{req(write, "ab", fileA), "2 -i3=hello,2,5,1 -" + at + " +i3=helloab,2,5,1 +file3@7,10x3"}, {req(write, strings.Repeat("a", 188), fileA), "ENOSPC"}})
	}
	w := scene(t)
	for i, x := range []row{
		{req(write, "A", fileA), "1 -i3=hello,2,5,1 -file3@0,10x3 +i3=helloA,2,5,1 +file3@6,10x3"},
		{req(lseek, "", fileB, 2, 2), "8 -file3@0,2x7 +file3@8,2x7"},
		{req(write, "B", fileB), "1 -i3=helloA,2,5,1 -file3@8,2x7 +i3=helloA\x00\x00B,2,5,1 +file3@9,2x7"},
		{req(lseek, "", fileA, 1, 0), "1 -file3@6,10x3 +file3@1,10x3"},
		{req(write, "C", fileA), "1 -i3=helloA\x00\x00B,2,5,1 -file3@1,10x3 +i3=helloA\x00\x00BC,2,5,1 +file3@10,10x3"},
		{req(read, "", fileA, 9), "0"},
		{req(fcntl, "", fileB, 4, app), "0 -file3@9,2x7 -1.2:file3,2 -1.4:file3,2 -2.2:file3,2 -2.4:file3,2 -3.2:file3,2 -3.4:file3,2 +file3@9,10x7 +1.2:file3,10 +1.4:file3,10 +2.2:file3,10 +2.4:file3,10 +3.2:file3,10 +3.4:file3,10"},
		{req(write, "D", again), "1 -i3=helloA\x00\x00BC,2,5,1 -file3@9,10x7 +i3=helloA\x00\x00BCD,2,5,1 +file3@11,10x7"},
		{req(pwrite, "E", fileA, 0), "1 -i3=helloA\x00\x00BCD,2,5,1 +i3=EelloA\x00\x00BCD,2,5,1"},
	} {
		if got := outcome(w, first, x.r); got != x.want {
			t.Errorf("%d: %q, not %q", i, got, x.want)
		}
	}
	must(t, "truncate", w.FS().Truncate(inoF, api.MaxFile))
	if got := outcome(w, first, req(write, "a", fileA)); got != "EFBIG" {
		t.Error(got)
	}
}

// P19.3: a pipe and a socket take as many bytes as there is room for.
func TestWriteRoom(t *testing.T) {
	rowsOf(t, asIs, []row{
		{req(write, "1234567", pipeW), "7 -p1,true,true= +p1,true,true=1234567"}, {req(write, "12345678", pipeW), "8 -p1,true,true= +p1,true,true=12345678"}, {req(write, "123456789", pipeW), "8 -p1,true,true= +p1,true,true=12345678"},
		{req(write, "12345", someW), "5 -p3,true,true=abc +p3,true,true=abc12345"}, {req(write, "123456", someW), "5 -p3,true,true=abc +p3,true,true=abc12345"},
		{req(write, "12345678", one), "8 -s4-3= +s4-3=12345678+0"}, {req(write, "123456789", one), "8 -s4-3= +s4-3=12345678+0"}, {req(write, "1234", full), "3 -s5-6=abc+2 de+1 +s5-6=abc+2 de123+1"},
	})
	w := scene(t)
	for i, x := range []row{
		{req(read, "", fullR, 1), "1 1 -p2,true,true=12345678 +p2,true,true=2345678"}, {req(write, "ab", fullW), "1 -p2,true,true=2345678 +p2,true,true=2345678a"}, {req(write, "b", fullW), "EWAIT"},
		{req(read, "", full, 2), "2 12 -s6-5=12345678+0 +s6-5=345678+0"}, {req(write, "abc", sent), "2 -s6-5=345678+0 +s6-5=345678ab+0"}, {req(write, "c", sent), "EWAIT"},
	} {
		if got := outcome(w, first, x.r); got != x.want {
			t.Errorf("%d: %s, not %s", i, got, x.want)
		}
	}
}

// P19.3: pwrite of each kind of descriptor: at off, wherever it stands.
func TestPwrite(t *testing.T) {
	want := map[int]string{fileR: "EBADF"}
	for _, fd := range []int{fileW, fileB, fileA, again, other} {
		want[fd] = "2 -i3=hello,2,5,1 +i3=hellab,2,5,1"
	}
	eachOf(t, asIs, req(pwrite, "ab", 0, 4), "ESPIPE", want)
	empty := map[int]string{fileR: "EBADF"}
	for _, fd := range []int{fileW, fileB, fileA, again, other} {
		empty[fd] = "0"
	}
	eachOf(t, asIs, req(pwrite, "", 0, 4), "ESPIPE", empty)
	for _, off := range []int{0, 3, 9} {
		rowsOf(t, stands(fileB, off), []row{
			{req(pwrite, "a", fileB, 1), "1 -i3=hello,2,5,1 +i3=hallo,2,5,1"}, {req(pwrite, "a", fileB, 7), "1 -i3=hello,2,5,1 +i3=hello\x00\x00a,2,5,1"}, {req(pwrite, "", fileB, 7), "0"}, {req(pwrite, "", fileB, api.MaxFile), "0"},
			{req(pwrite, "a", fileB, api.MaxFile-1), "1 -i3=hello,2,5,1 +i3=hello" + zeros(api.MaxFile-6) + "a,2,5,2"}, {req(pwrite, "a", fileB, api.MaxFile), "EFBIG"}, {req(pwrite, "ab", fileB, api.MaxFile-1), "EFBIG"},
			{req(pwrite, "", fileB, api.MaxFile+1), "EFBIG"}, {req(pwrite, "a", fileB, 1<<40), "EFBIG"}, {req(pwrite, "a", fileB, 1<<40+1), "EINVAL"}, {req(pwrite, "a", fileB, -1), "EINVAL"}, {req(pwrite, strings.Repeat("a", 66), fileB, 127), "ENOSPC"},
		})
	}
}

// P19.7: what is written to a file is read, by whatever descriptor of it and whatever process, wherever in it.
func TestFileWrittenIsRead(t *testing.T) {
	dice := dice(3)
	w := world.New(api.Limits{Procs: 2, Fds: 9, Files: 9, Inodes: 9, Blocks: 40, Pipe: 1, Sock: 1})
	ino, e := w.FS().Create(1, "f", api.KFile, "")
	must(t, "create", e)
	for fd := range 6 {
		opens(t, w, fd, api.KFile, ino, both)
	}
	_, e = w.Fork(first, false)
	must(t, "fork", e)
	text := ""
	for range 3000 {
		fd, pid, off := dice(6), 1+dice(2), dice(2200)
		s := strings.Repeat(string(rune('a'+dice(26))), dice(30))
		put := req(pwrite, s, fd, off)
		if dice(2) == 0 {
			Call(w, pid, req(lseek, "", fd, off, 0))
			put = req(write, s, fd)
		}
		if x := Call(w, pid, put); x.Err != api.OK || x.Val != len(s) {
			t.Fatalf("%v: %v", put, x)
		}
		if s != "" {
			text = text + zeros(max(0, off-len(text)))
			text = text[:off] + s + text[min(len(text), off+len(s)):]
		}
		for i := range 2 {
			from, n := max(0, off-dice(20)), dice(80)
			want := text[min(from, len(text)):min(from+n, len(text))]
			got := req(pread, "", dice(6), n, from)
			if i == 1 {
				got = req(read, "", dice(6), n)
				Call(w, 1+dice(2), req(lseek, "", got.A[0], from, 0))
			}
			if x := Call(w, 1+dice(2), got); x.Err != api.OK || x.S != want || x.Val != len(want) {
				t.Fatalf("%v: %v, not %q", got, x, want)
			}
		}
	}
}

// P19.7: what is written to a pipe or a socket is read, in its order, each byte once, whoever writes and reads.
func TestStreamWrittenIsRead(t *testing.T) {
	for _, kind := range []int{api.KPipe, api.KSock} {
		dice := dice(uint64(kind))
		w := world.New(api.Limits{Procs: 3, Fds: 4, Files: 4, Inodes: 2, Blocks: 0, Pipe: 11, Sock: 11})
		if kind == api.KPipe {
			p := w.Pipe()
			w.Open(first, kind, p, 0, slots.Full(1))
			w.Open(first, kind, p, wr, slots.Full(1))
		} else {
			a, b := w.Socks().Pair()
			w.Open(first, kind, a, both, slots.Full(1))
			w.Open(first, kind, b, both, slots.Full(1))
		}
		w.Fork(first, false)
		w.Fork(first, false)
		wrote, got := "", ""
		for i := range 5000 {
			pid := 1 + dice(3)
			if s := string(rune('a'+i%26)) + strings.Repeat("-", dice(9)); dice(2) == 0 {
				x := Call(w, pid, req(write, s, 1))
				wrote += s[:x.Val]
				if full := len(wrote) - len(got); x.Err == api.EWAIT && full != 11 || x.Err == api.OK && (full > 11 || x.Val < len(s) && full < 11) {
					t.Fatalf("%q: %v, of %d bytes that wait", s, x, full)
				}
				continue
			}
			x := Call(w, pid, req(read, "", 0, 1+dice(12)))
			got += x.S
			if x.Err == api.EWAIT && got != wrote || !strings.HasPrefix(wrote, got) || x.Val != len(x.S) {
				t.Fatalf("%v: %q of %q", x, got, wrote)
			}
		}
		if len(got) < 5000 {
			t.Errorf("just %d bytes were read", len(got))
		}
	}
}

// dice answers a roller of numbers below n, always the same row of them.
func dice(seed uint64) func(n int) int {
	return func(n int) int {
		seed = seed*6364136223846793005 + 1442695040888963407
		return int(seed >> 33 % uint64(n))
	}
}
