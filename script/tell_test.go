package script

import (
	"fmt"
	"math"
	"slices"
	"strings"
	"testing"

	"purlieu/api"
	"purlieu/run"
)

// errors are the document's, by their numbers.
const errors = `OK 0, EPERM 1, ENOENT 2, ESRCH 3, EBADF 9, ECHILD 10, EBUSY 16, EEXIST 17, ENOTDIR 20, EISDIR 21, EINVAL 22, ENFILE 23, EMFILE 24, ENOTTY 25, EFBIG 27, ENOSPC 28, ESPIPE 29, EMLINK 31, EPIPE 32, EAGAIN 35, ENOTSOCK 38, EMSGSIZE 40, EOPNOTSUPP 45, EADDRINUSE 48, EISCONN 56, ENOTCONN 57, ECONNREFUSED 61, ELOOP 62, ENAMETOOLONG 63, ENOTEMPTY 66, ENOSYS 78, ENOTCAPABLE 93, ECAPMODE 94, EWAIT 1000`

// plainName answers an error's name as the document has it, or its number.
func plainName(e api.Errno) string {
	for row := range strings.SplitSeq(errors, ", ") {
		if name, no, _ := strings.Cut(row, " "); no == fmt.Sprint(int(e)) {
			return name
		}
	}
	return fmt.Sprint(int(e))
}

// P30.4: the errors that api has.
func TestName(t *testing.T) {
	for _, x := range []struct {
		e    api.Errno
		want string
	}{
		{api.OK, "OK"}, {api.EPERM, "EPERM"}, {api.ENOENT, "ENOENT"}, {api.ESRCH, "ESRCH"}, {api.EBADF, "EBADF"}, {api.ECHILD, "ECHILD"}, {api.EBUSY, "EBUSY"}, {api.EEXIST, "EEXIST"}, {api.ENOTDIR, "ENOTDIR"}, {api.EISDIR, "EISDIR"}, {api.EINVAL, "EINVAL"}, {api.ENFILE, "ENFILE"},
		{api.EMFILE, "EMFILE"}, {api.ENOTTY, "ENOTTY"}, {api.EFBIG, "EFBIG"}, {api.ENOSPC, "ENOSPC"}, {api.ESPIPE, "ESPIPE"}, {api.EMLINK, "EMLINK"}, {api.EPIPE, "EPIPE"}, {api.EAGAIN, "EAGAIN"}, {api.ENOTSOCK, "ENOTSOCK"}, {api.EMSGSIZE, "EMSGSIZE"}, {api.EOPNOTSUPP, "EOPNOTSUPP"}, {api.EADDRINUSE, "EADDRINUSE"},
		{api.EISCONN, "EISCONN"}, {api.ENOTCONN, "ENOTCONN"}, {api.ECONNREFUSED, "ECONNREFUSED"}, {api.ELOOP, "ELOOP"}, {api.ENAMETOOLONG, "ENAMETOOLONG"}, {api.ENOTEMPTY, "ENOTEMPTY"}, {api.ENOSYS, "ENOSYS"}, {api.ENOTCAPABLE, "ENOTCAPABLE"}, {api.ECAPMODE, "ECAPMODE"}, {api.EWAIT, "EWAIT"},
		{4, "4"}, {5, "5"}, {999, "999"}, {1001, "1001"}, {95, "95"}, {-1, "-1"}, {-22, "-22"}, {-1000, "-1000"}, {1 << 32, "4294967296"}, {22 + 1<<32, "4294967318"}, {math.MaxInt, "9223372036854775807"}, {math.MinInt, "-9223372036854775808"},
	} {
		if s := Name(x.e); s != x.want {
			t.Errorf("Name(%d): %s, not %s", int(x.e), s, x.want)
		}
	}
}

// P30.4: all numbers up to some beyond the greatest of api, and as many below 0.
func TestNameEveryNumber(t *testing.T) {
	named := 0
	for e := api.Errno(-1100); e < 1100; e++ {
		want := plainName(e)
		if s := Name(e); s != want {
			t.Errorf("Name(%d): %s, not %s", int(e), s, want)
		}
		if want != fmt.Sprint(int(e)) {
			named++
		}
	}
	if named != 34 {
		t.Errorf("%d errors have a name", named)
	}
}

// P30.4: what came of steps, spelt out.
func TestTell(t *testing.T) {
	full := api.Res{Val: 7, Err: api.EPIPE, S: "a", L: []int{1}}
	for _, x := range []struct {
		o    api.Out
		want string
	}{
		{api.Out{}, "idle"},
		{api.Out{Mark: api.Idle, Res: full}, "idle"},
		{api.Out{Mark: api.Parked}, "parked"},
		{api.Out{Mark: api.Parked, Res: full}, "parked"},
		{api.Out{Mark: api.Done}, "done 0"},
		{api.Out{Mark: api.Woken}, "woken 0"},
		{api.Out{Mark: api.Done, Res: full}, `done 7 EPIPE "a" [1]`},
		{api.Out{Mark: api.Woken, Res: full}, `woken 7 EPIPE "a" [1]`},
		{api.Out{Mark: 4}, "?"},
		{api.Out{Mark: 4, Res: full}, "?"},
		{api.Out{Mark: -1}, "?"},
		{api.Out{Mark: -1, Res: full}, "?"},
		{api.Out{Mark: 1 << 32}, "?"},
		{api.Out{Mark: 1<<32 + 1}, "?"},
		{api.Out{Mark: math.MaxInt, Res: full}, "?"},
		{api.Out{Mark: math.MinInt, Res: full}, "?"},
		{api.Out{Mark: api.Done, Res: api.Res{Val: 3}}, "done 3"},
		{api.Out{Mark: api.Done, Res: api.Res{Val: -1}}, "done -1"},
		{api.Out{Mark: api.Done, Res: api.Res{Val: math.MaxInt}}, "done 9223372036854775807"},
		{api.Out{Mark: api.Done, Res: api.Res{Val: math.MinInt}}, "done -9223372036854775808"},
		{api.Out{Mark: api.Done, Res: api.Res{Err: api.ECAPMODE}}, "done 0 ECAPMODE"},
		{api.Out{Mark: api.Woken, Res: api.Res{Err: api.EWAIT}}, "woken 0 EWAIT"},
		{api.Out{Mark: api.Done, Res: api.Res{Err: 999}}, "done 0 999"},
		{api.Out{Mark: api.Done, Res: api.Res{Err: -5}}, "done 0 -5"},
		{api.Out{Mark: api.Done, Res: api.Res{Val: 2, S: "hi"}}, `done 2 "hi"`},
		{api.Out{Mark: api.Done, Res: api.Res{S: "\x00\"\\\xff "}}, `done 0 "\x00\"\\\xff "`},
		{api.Out{Mark: api.Done, Res: api.Res{L: []int{}}}, "done 0"},
		{api.Out{Mark: api.Done, Res: api.Res{L: []int{0}}}, "done 0 [0]"},
		{api.Out{Mark: api.Done, Res: api.Res{L: []int{1, -2, 3}}}, "done 0 [1,-2,3]"},
		{api.Out{Mark: api.Woken, Res: api.Res{Val: 2, S: "hi", L: []int{3}}}, `woken 2 "hi" [3]`},
		{api.Out{Mark: api.Done, Res: api.Res{Err: api.EBADF, L: []int{math.MinInt, math.MaxInt}}}, "done 0 EBADF [-9223372036854775808,9223372036854775807]"},
		{api.Out{Mark: api.Done, Res: api.Res{Err: api.EBADF, S: "[]"}}, `done 0 EBADF "[]"`},
	} {
		if s := Tell(x.o); s != x.want {
			t.Errorf("Tell(%v): %s, not %s", x.o, s, x.want)
		}
	}
}

// P30.4: every mark with every sort of number, error, text and list.
func TestTellEverySort(t *testing.T) {
	for mark := -300; mark <= 300; mark++ {
		for _, val := range []int{0, 1, -1, 256, math.MaxInt} {
			for _, e := range []api.Errno{api.OK, api.EPERM, api.ENOTCAPABLE, api.EWAIT, 4, -1} {
				for _, s := range []string{"", "a", "\n\"", "\x80"} {
					for _, l := range [][]int{nil, {}, {0}, {5, -6}} {
						words := []string{"?"}
						if mark >= 0 && mark <= 3 {
							words = []string{[]string{"idle", "done", "parked", "woken"}[mark]}
						}
						if mark == 1 || mark == 3 {
							words = append(words, fmt.Sprint(val))
							if e != 0 {
								words = append(words, plainName(e))
							}
							if s != "" {
								words = append(words, plainQuote(s))
							}
							if len(l) > 0 {
								words = append(words, strings.ReplaceAll(fmt.Sprint(l), " ", ","))
							}
						}
						o := api.Out{Mark: mark, Res: api.Res{Val: val, Err: e, S: s, L: l}}
						if got := Tell(o); got != strings.Join(words, " ") {
							t.Fatalf("Tell(%v): %s, not %v", o, got, words)
						}
					}
				}
			}
		}
	}
}

// P30.2, P30.3, P30.4: a script that runs, with what comes of each line.
func TestScriptThatRuns(t *testing.T) {
	rows := [][2]string{
		{`1 pipe 0`, `done 0 [0,1]`},
		{`1 fork`, `done 2`},
		{`2 read 0 9`, `parked`},
		{`2 getpid`, `parked`},
		{`1 write 1 "h\"\x0a"`, `done 3`},
		{`2 getpid`, `woken 3 "h\"\x0a"`},
		{`3 getpid`, `idle`},
		{`0 getpid`, `idle`},
		{`2 cap_enter`, `done 0`},
		{`2 mkdir "a"`, `done 0 ECAPMODE`},
		{`1 mkdir "a"`, `done 0`},
		{`1 mkdir "a"`, `done 0 EEXIST`},
		{`1 open 512 "a/\xff"`, `done 2`},
		{`1 getdents 2 9`, `done 0 ENOTDIR`},
		{`1 socketpair 4`, `done 3 [3,4]`},
		{`1 recv 3 9 4`, `done 0 EAGAIN`},
		{`1 send 3 "hi" [2,1]`, `done 2`},
		{`1 recv 4 9 1`, `done 2 "hi" [5]`},
		{`1 exit 300`, `done 0 EINVAL`},
		{`1 lseek 0 -5 2`, `done 0 ESPIPE`},
	}
	text := "# what comes of these lines\n\n"
	for _, x := range rows {
		text += x[0] + "\n"
	}
	steps, no, e := Script(text)
	if len(steps) != len(rows) || no != 0 || e != api.OK {
		t.Fatal(steps, no, e)
	}
	outs, _, ok := run.Run(api.Limits{Procs: 4, Fds: 8, Files: 8, Inodes: 8, Blocks: 8, Pipe: 8, Sock: 8}, steps)
	if !ok {
		t.Fatal("it does not run")
	}
	for i, o := range outs {
		if s := Tell(o); s != rows[i][1] {
			t.Errorf("%s: %s, not %s", rows[i][0], s, rows[i][1])
		}
	}
}

// roomy answers a list with more in its spare room.
func roomy(l ...int) []int { return append(slices.Clip(l), -7, -7)[:len(l)] }

// P30.2, P30.3, P30.4: what is handed in stays as it is, and no two lists of answers are one.
func TestMemory(t *testing.T) {
	spare := func(l []int) []int { return append(slices.Clone(l), l[len(l):len(l)+2]...) }
	l := roomy(1, 2, 3)
	s := api.Step{Pid: 1, Req: api.Req{No: 50, A: five(1), S: "a", L: l}}
	if Show(s) != `1 send 1 "a" [1,2,3]` || !slices.Equal(spare(l), []int{1, 2, 3, -7, -7}) || s.Req.A != five(1) || s.Req.S != "a" {
		t.Error("Show changes what is handed in", s, spare(l))
	}
	if Tell(api.Out{Mark: 1, Res: api.Res{L: l}}) != "done 0 [1,2,3]" || !slices.Equal(spare(l), []int{1, 2, 3, -7, -7}) {
		t.Error("Tell changes what is handed in", spare(l))
	}
	const line = `1 send 0 "" [1,2,3]`
	a, _ := Parse(line)
	b, _ := Parse(line)
	steps, _, _ := Script(line + "\n" + line + "\n1 cap_ioctls_limit 0 []\n" + line)
	more, _, _ := Script(line)
	steps = append(append(steps, a, b), more...)
	for i, x := range steps {
		for j := range x.Req.L[:cap(x.Req.L)] {
			x.Req.L[:cap(x.Req.L)][j] = 100 + i
		}
	}
	for i, x := range steps {
		for _, n := range x.Req.L[:cap(x.Req.L)] {
			if n != 100+i {
				t.Errorf("a list shares memory with that of the step %d", n-100)
			}
		}
	}
	if c, _ := Parse(line); !slices.Equal(c.Req.L, []int{1, 2, 3}) {
		t.Error("Parse keeps what it answers")
	}
}
