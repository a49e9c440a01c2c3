package fscalls

import (
	"fmt"
	"math"
	"strings"
	"testing"

	"purlieu/api"
	"purlieu/slots"
	"purlieu/world"
)

// P19.5: lseek of each kind of descriptor, whatever its way.
func TestLseek(t *testing.T) {
	for _, x := range [][3]int{{7, 0, 7}, {7, 1, 7}, {1, 2, 6}} {
		off, how, to := x[0], x[1], x[2]
		want := map[int]string{
			fileR: fmt.Sprintf("%d -file3@0,0x4 +file3@%d,0x4", to, to), fileW: fmt.Sprintf("%d -file3@0,1x3 +file3@%d,1x3", to, to), fileB: fmt.Sprintf("%d -file3@0,2x7 +file3@%d,2x7", to, to),
			fileA: fmt.Sprintf("%d -file3@0,10x3 +file3@%d,10x3", to, to), again: fmt.Sprintf("%d -file3@0,2x7 +file3@%d,2x7", to, to), other: fmt.Sprintf("%d -file3@0,2x3 +file3@%d,2x3", to, to),
		}
		if how == 2 {
			to-- // d has four entries, f five bytes
		}
		want[dir] = fmt.Sprintf("%d -dir2@0,0x4 +dir2@%d,0x4", to, to)
		if how == 2 {
			to = off
		}
		want[gone] = fmt.Sprintf("%d -dir4@0,0x3 +dir4@%d,0x3", to, to)
		eachOf(t, asIs, req(lseek, "", 0, off, how), "ESPIPE", want)
	}
	eachOf(t, asIs, req(lseek, "", 0, -1, 0), "ESPIPE", map[int]string{fileR: "EINVAL", fileW: "EINVAL", fileB: "EINVAL", fileA: "EINVAL", again: "EINVAL", other: "EINVAL", dir: "EINVAL", gone: "EINVAL"})
}

// P19.5: from the beginning, from where it stands, from the end: to what is from 0 to MaxFile, whatever there is.
func TestLseekHow(t *testing.T) {
	const most = api.MaxFile
	for _, fd := range []int{fileB, dir} {
		size := map[int]int{fileB: 5, dir: 4}[fd]
		for _, at := range []int{0, 1, 3, 9, most - 1, most, most + 1, 1 << 62, math.MaxInt} {
			for how, from := range []int{0, at, size} {
				l := []int{0, 1, -1, 7, -from, -from - 1, -from + 1, most - from, most - from + 1, most - from - 1, math.MaxInt, math.MinInt, math.MaxInt - from, 1 << 40, 1 << 32, -1 << 40, math.MinInt + 1}
				for _, off := range l {
					w := scene(t)
					stands(fd, at)(w)
					was := w.Dump()
					x := Call(w, first, req(lseek, "", fd, off, how))
					_, f, _ := w.Look(first, fd, 0)
					to, can := from+off, off >= -from && off <= most-from
					if !can && (x.Err != api.EINVAL || x.Val != 0 || f.Off != at) || can && (x.Err != api.OK || x.Val != to || f.Off != to) {
						t.Errorf("%d at %d: lseek %d %d: %v, it stands at %d", fd, at, off, how, x, f.Off)
					}
					for i := range was.Files {
						if was.Files[i].ID == f.ID {
							was.Files[i].Off = f.Off
						}
					}
					if !alike(was, w.Dump()) {
						t.Errorf("lseek %d %d changes more", off, how)
					}
				}
			}
		}
	}
}

// P19.5: the right tell alone lets be told where it stands, the right seek alone all else.
func TestLseekRights(t *testing.T) {
	for _, fd := range []int{fileR, fileW, fileB, fileA, dir, gone, pipeR, one, proc} {
		for _, x := range []struct {
			has  api.Rights
			tell bool
			seek bool
		}{{api.CapTell, true, false}, {api.CapSeek, false, true}, {api.CapTell | api.CapSeek, true, true}, {api.CapAll &^ api.CapTell, false, true}, {api.CapAll &^ api.CapSeek, true, false}, {api.CapAll &^ api.CapSeek &^ api.CapTell, false, false}, {0, false, false}} {
			for how := range 3 {
				for _, off := range []int{0, 1, -1, math.MaxInt} {
					w := scene(t)
					want := Call(w, first, req(lseek, "", fd, off, how)).Err
					w = scene(t)
					must(t, "limit", w.Slots(first).Limit(fd, x.has))
					if off == 0 && how == 1 && !x.tell || (off != 0 || how != 1) && !x.seek {
						want = api.ENOTCAPABLE
					}
					if got := Call(w, first, req(lseek, "", fd, off, how)); got.Err != want {
						t.Errorf("%d: lseek %d %d with %d: %v, not %v", fd, off, how, x.has, got, want)
					}
				}
			}
		}
	}
}

// P19.5: where a file stands is the open file's: its descriptors and processes have it together, another open file of the inode stands elsewhere.
func TestLseekTogether(t *testing.T) {
	w := scene(t)
	for i, x := range []struct{ pid, fd, off, how, want int }{
		{first, fileB, 3, 0, 3}, {first, again, 0, 1, 3}, {second, fileB, 1, 1, 4}, {capable, again, 0, 1, 4}, {first, other, 0, 1, 0}, {first, fileR, 0, 1, 0}, {first, other, 2, 2, 7}, {second, other, -1, 1, 6}, {first, fileB, 0, 1, 4},
		{first, dir, 2, 0, 2}, {second, dir, 0, 1, 2}, {second, dir, -1, 2, 3}, {first, dir, 0, 1, 3},
	} {
		if got := Call(w, x.pid, req(lseek, "", x.fd, x.off, x.how)); got.Err != api.OK || got.Val != x.want {
			t.Errorf("%d: %v, not %d", i, got, x.want)
		}
	}
}

// P19.5: ftruncate of each kind and way; the file stands where it stood.
func TestFtruncate(t *testing.T) {
	want := map[int]string{}
	for _, fd := range []int{fileW, fileB, fileA, again, other} {
		want[fd] = "0 -i3=hello,2,5,1 +i3=he,2,5,1"
	}
	eachOf(t, asIs, req(ftruncate, "", 0, 2), "EINVAL", want)
	for _, fd := range []int{fileW, fileB, fileA} {
		for _, off := range []int{0, 3, 99} {
			rowsOf(t, stands(fd, off), []row{
				{req(ftruncate, "", fd, 0), "0 -i3=hello,2,5,1 +i3=,2,5,0"}, {req(ftruncate, "", fd, 1), "0 -i3=hello,2,5,1 +i3=h,2,5,1"}, {req(ftruncate, "", fd, 5), "0"}, {req(ftruncate, "", fd, 7), "0 -i3=hello,2,5,1 +i3=hello\x00\x00,2,5,1"},
				{req(ftruncate, "", fd, 130), "0 -i3=hello,2,5,1 +i3=hello" + zeros(125) + ",2,5,1"}, {req(ftruncate, "", fd, api.MaxFile), "0 -i3=hello,2,5,1 +i3=hello" + zeros(api.MaxFile-5) + ",2,5,1"},
				{req(ftruncate, "", fd, api.MaxFile+1), "EFBIG"}, {req(ftruncate, "", fd, 1<<40), "EFBIG"}, {req(ftruncate, "", fd, 1<<40+1), "EINVAL"}, {req(ftruncate, "", fd, -1), "EINVAL"},
			})
		}
	}
	doing(t, scene(t), []row{
		{req(ftruncate, "", fileB, 2), "0 -i3=hello,2,5,1 +i3=he,2,5,1"}, {req(ftruncate, "", fileB, 4), "0 -i3=he,2,5,1 +i3=he\x00\x00,2,5,1"},
		{req(pwrite, "a", fileB, 127), "1 -i3=he\x00\x00,2,5,1 +i3=he" + zeros(125) + "a,2,5,2"}, {req(pwrite, "a", fileB, 128), "ENOSPC"},
		{req(ftruncate, "", fileB, 64), "0 -i3=he" + zeros(125) + "a,2,5,2 +i3=he" + zeros(62) + ",2,5,1"}, {req(pwrite, "a", fileB, 128), "1 -i3=he" + zeros(62) + ",2,5,1 +i3=he" + zeros(126) + "a,2,5,2"},
	})
}

// P19.5: fsync changes nothing.
func TestFsync(t *testing.T) {
	want := map[int]string{}
	for _, fd := range []int{fileR, fileW, fileB, fileA, again, other, dir, gone} {
		want[fd] = "0"
	}
	eachOf(t, asIs, req(fsync, "", 0), "EINVAL", want)
}

// P19.5: getdents of each kind; from where a directory stands, and it goes on by as many.
func TestGetdents(t *testing.T) {
	eachOf(t, asIs, req(getdents, "", 0, 2), "ENOTDIR", map[int]string{dir: "2 e/f -dir2@0,0x4 +dir2@2,0x4", gone: "ENOENT"})
	eachOf(t, asIs, req(getdents, "", 0, 0), "ENOTDIR", map[int]string{dir: "0", gone: "ENOENT"})
	for _, x := range []struct {
		off, n int
		want   string
	}{
		{0, 0, "0"}, {0, 1, "1 e -dir2@0,0x4 +dir2@1,0x4"}, {0, 4, "4 e/f/g/in -dir2@0,0x4 +dir2@4,0x4"}, {0, 64, "4 e/f/g/in -dir2@0,0x4 +dir2@4,0x4"}, {0, 65, "EINVAL"}, {0, -1, "EINVAL"},
		{1, 2, "2 f/g -dir2@1,0x4 +dir2@3,0x4"}, {3, 2, "1 in -dir2@3,0x4 +dir2@4,0x4"}, {3, 0, "0"}, {4, 2, "0"}, {5, 2, "0"}, {api.MaxFile, 64, "0"}, {math.MaxInt, 64, "0"},
	} {
		rowsOf(t, stands(dir, x.off), []row{{req(getdents, "", dir, x.n), x.want}})
	}
	w := scene(t)
	for i, x := range []struct {
		pid, fd int
		want    string
	}{{first, dir, "e/f/g"}, {second, dir, "in"}, {capable, dir, ""}, {first, free, "d/h"}, {first, free, ""}} {
		if x.fd == free && i == 3 {
			opens(t, w, free, api.KDir, 1, 0)
		}
		if got := Call(w, x.pid, req(getdents, "", x.fd, 3)); got.Err != api.OK || got.S != x.want || got.Val != len(strings.FieldsFunc(x.want, func(r rune) bool { return r == '/' })) {
			t.Errorf("%d: %v, not %s", i, got, x.want)
		}
	}
	doing(t, w, []row{{req(lseek, "", dir, 2, 0), "2 -dir2@4,0x4 +dir2@2,0x4"}, {req(getdents, "", dir, 9), "2 g/in -dir2@2,0x4 +dir2@4,0x4"}})
	must(t, "rename", w.FS().Rename(inoD, "e", inoD, "z"))
	doing(t, w, []row{{req(getdents, "", dir, 9), "0"}, {req(lseek, "", dir, 0, 0), "0 -dir2@4,0x4 +dir2@0,0x4"}, {req(getdents, "", dir, 9), "4 f/g/in/z -dir2@0,0x4 +dir2@4,0x4"}})
}

// P19.5: a directory with as many entries as there may be is told at once, and by pages.
func TestGetdentsOfMany(t *testing.T) {
	w := world.New(api.Limits{Procs: 1, Fds: 1, Files: 1, Inodes: 3, Blocks: 0, Pipe: 1, Sock: 1})
	var all []string
	for i := range api.MaxEntries {
		name := fmt.Sprintf("%c%c%s", 'a'+i/26, 'a'+i%26, strings.Repeat("x", 30))
		all = append(all, name)
		if i%32 == 0 {
			_, e := w.FS().Create(1, name, api.KFile, "")
			must(t, "create", e)
		} else {
			must(t, "link", w.FS().Link(1, name, 2+i/32))
		}
	}
	opens(t, w, 0, api.KDir, 1, 0)
	if x := Call(w, first, req(getdents, "", 0, 64)); x.Val != 64 || x.S != strings.Join(all, "/") {
		t.Error(x)
	}
	Call(w, first, req(lseek, "", 0, 0, 0))
	for i := 0; i < 64; i += 9 {
		if x := Call(w, first, req(getdents, "", 0, 9)); x.S != strings.Join(all[i:min(64, i+9)], "/") {
			t.Error(i, x)
		}
	}
}

// P19.5: fstat tells kind, size, links and blocks; of what is no inode the bytes that wait.
func TestFstat(t *testing.T) {
	want := map[int]string{dir: "0 [2 4 1 0]", gone: "0 [2 0 0 0]", proc: "0 [7 0 0 0]"}
	for _, fd := range []int{fileR, fileW, fileB, fileA, again, other} {
		want[fd] = "0 [1 5 2 1]"
	}
	for fd, n := range map[int]int{pipeR: 0, pipeW: 0, fullR: 8, fullW: 8, someR: 3, someW: 3, leftR: 2, emptyR: 0, lostW: 0} {
		want[fd] = fmt.Sprintf("0 [5 %d 0 0]", n)
	}
	for fd, n := range map[int]int{sent: 5, full: 8, left: 2} {
		want[fd] = fmt.Sprintf("0 [6 %d 0 0]", n)
	}
	eachOf(t, asIs, req(fstat, "", 0), "0 [6 0 0 0]", want)
	w := scene(t)
	must(t, "write", w.FS().Write(inoF, 200, []byte("x")))
	must(t, "unlink", w.FS().Unlink(1, "h"))
	doing(t, w, []row{{req(fstat, "", fileB), "0 [1 201 1 2]"}, {req(lseek, "", fileB, 9, 0), "9 -file3@0,2x7 +file3@9,2x7"}, {req(fstat, "", fileB), "0 [1 201 1 2]"}})
	must(t, "unlink", w.FS().Unlink(inoD, "f"))
	must(t, "end", w.End(second, 0))
	doing(t, w, []row{{req(fstat, "", fileW), "0 [1 201 0 2]"}, {req(fstat, "", dir), "0 [2 3 1 0]"}, {req(fstat, "", proc), "0 [7 0 0 0]"}})
}

// P19.2, P19.3, P19.5: a file without a name is read and written as long as it is open.
func TestUnlinked(t *testing.T) {
	w := lonely(t)
	must(t, "unlink", w.FS().Unlink(1, "h"))
	must(t, "unlink", w.FS().Unlink(inoD, "f"))
	doing(t, w, []row{
		{req(write, "HE", fileB), "2 -i3=hello,0,5,1 -file3@0,2x2 +i3=HEllo,0,5,1 +file3@2,2x2"}, {req(read, "", fileR, 9), "5 HEllo -file3@0,0x1 +file3@5,0x1"}, {req(ftruncate, "", fileW, 1), "0 -i3=HEllo,0,5,1 +i3=H,0,5,1"},
		{req(closes, "", fileR), "0 -i3=H,0,5,1 -file3@5,0x1 -1.0:file3,0 +i3=H,0,4,1"}, {req(closes, "", fileW), "0 -i3=H,0,4,1 -file3@0,1x1 -1.1:file3,1 +i3=H,0,3,1"}, {req(closes, "", fileA), "0 -i3=H,0,3,1 -file3@0,10x1 -1.3:file3,10 +i3=H,0,2,1"},
		{req(closes, "", other), "0 -i3=H,0,2,1 -file3@0,2x1 -1.5:file3,2 +i3=H,0,1,1"}, {req(closes, "", fileB), "0 -file3@2,2x2 -1.2:file3,2 +file3@2,2x1"}, {req(closes, "", again), "0 -i3=H,0,1,1 -file3@2,2x1 -1.4:file3,2"},
	})
}

// P19.1, P19.5: what is open of nothing that is there ends without a panic, and tells what the tables tell.
func TestOpenOfNothing(t *testing.T) {
	for kind := api.KFile; kind <= api.KProc; kind++ {
		for _, flags := range []int{0, wr, both, both | app, both | nonblock} {
			for _, no := range chapter {
				for _, n := range []int{0, 1, 2, 9} {
					w := world.New(some)
					if w.Open(first, kind, 77, flags, slots.Full(1)) != 0 {
						continue
					}
					r := req(no, "", 0, n)
					switch no {
					case lseek:
						r.A = [5]int{0, n, n % 3}
					case write, pwrite:
						r.S = strings.Repeat("x", n)
					}
					got := outcome(w, first, r)
					if strings.Contains(got, " and ") || strings.HasPrefix(got, "EWAIT") || got == "" {
						t.Errorf("kind %d, flags %d: %v: %s", kind, flags, r, got)
					}
				}
			}
		}
	}
	w := world.New(some)
	opens(t, w, 0, api.KFile, 77, both)
	opens(t, w, 1, api.KDir, 77, 0)
	doing(t, w, []row{
		{req(read, "", 0, 1), "ENOENT"}, {req(pread, "", 0, 1, 1), "ENOENT"}, {req(write, "a", 0), "ENOENT"}, {req(pwrite, "a", 0, 1), "ENOENT"}, {req(ftruncate, "", 0, 1), "ENOENT"}, {req(lseek, "", 0, 0, 2), "ENOENT"}, {req(lseek, "", 1, 0, 2), "ENOENT"},
		{req(getdents, "", 1, 1), "ENOENT"}, {req(fstat, "", 0), "ENOENT"}, {req(fstat, "", 1), "ENOENT"}, {req(lseek, "", 0, 3, 0), "3 -file77@0,2x1 +file77@3,2x1"}, {req(fsync, "", 0), "0"},
	})
}

// P19.1: a descriptor that names no open file (which no call makes) ends without a panic.
func TestOfNoFile(t *testing.T) {
	for _, no := range chapter {
		for n := range 7 {
			w := world.New(some)
			if _, e := w.Slots(first).Put(0, slots.Full(99)); e != api.OK {
				t.Fatal(e)
			}
			r := req(no, "", 0, n)
			switch no {
			case lseek:
				r.A = [5]int{0, n, n % 3}
			case write, pwrite:
				r.S = "x"
			}
			Call(w, first, r)
		}
	}
}
