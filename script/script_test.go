package script

import (
	"math"
	"strings"
	"testing"

	"purlieu/api"
)

// five answers five numbers, the first ones as handed in.
func five(l ...int) (a [5]int) {
	copy(a[:], l)
	return a
}

// lines are lines of every call, each with its step.
var lines = []struct {
	line string
	step api.Step
}{
	{`1 exit 7`, api.Step{Pid: 1, Req: api.Req{No: 1, A: five(7)}}},
	{`1 fork`, api.Step{Pid: 1, Req: api.Req{No: 2}}},
	{`2 read 0 9`, api.Step{Pid: 2, Req: api.Req{No: 3, A: five(0, 9)}}},
	{`2 write 1 "hi"`, api.Step{Pid: 2, Req: api.Req{No: 4, A: five(1), S: "hi"}}},
	{`1 open 512 "/a"`, api.Step{Pid: 1, Req: api.Req{No: 5, A: five(512), S: "/a"}}},
	{`3 close 4`, api.Step{Pid: 3, Req: api.Req{No: 6, A: five(4)}}},
	{`1 wait -1 1`, api.Step{Pid: 1, Req: api.Req{No: 7, A: five(-1, 1)}}},
	{`1 link "a" "b"`, api.Step{Pid: 1, Req: api.Req{No: 8, S: "a", T: "b"}}},
	{`1 unlink "a"`, api.Step{Pid: 1, Req: api.Req{No: 9, S: "a"}}},
	{`1 chdir ".."`, api.Step{Pid: 1, Req: api.Req{No: 10, S: ".."}}},
	{`1 fchdir 3`, api.Step{Pid: 1, Req: api.Req{No: 11, A: five(3)}}},
	{`1 mkdir "a b"`, api.Step{Pid: 1, Req: api.Req{No: 12, S: "a b"}}},
	{`1 rmdir ""`, api.Step{Pid: 1, Req: api.Req{No: 13}}},
	{`0 getpid`, api.Step{Req: api.Req{No: 14}}},
	{`-7 getppid`, api.Step{Pid: -7, Req: api.Req{No: 15}}},
	{`1 kill 2 9`, api.Step{Pid: 1, Req: api.Req{No: 16, A: five(2, 9)}}},
	{`1 dup 0`, api.Step{Pid: 1, Req: api.Req{No: 17}}},
	{`1 dup2 0 5`, api.Step{Pid: 1, Req: api.Req{No: 18, A: five(0, 5)}}},
	{`1 pipe 4`, api.Step{Pid: 1, Req: api.Req{No: 19, A: five(4)}}},
	{`1 fcntl 0 4 8`, api.Step{Pid: 1, Req: api.Req{No: 20, A: five(0, 4, 8)}}},
	{`1 ioctl 1 2 3`, api.Step{Pid: 1, Req: api.Req{No: 21, A: five(1, 2, 3)}}},
	{`1 symlink "../x" "y"`, api.Step{Pid: 1, Req: api.Req{No: 22, S: "../x", T: "y"}}},
	{`1 readlink "y"`, api.Step{Pid: 1, Req: api.Req{No: 23, S: "y"}}},
	{`1 rename "" "b"`, api.Step{Pid: 1, Req: api.Req{No: 24, T: "b"}}},
	{`7 lseek 0 -5 2`, api.Step{Pid: 7, Req: api.Req{No: 25, A: five(0, -5, 2)}}},
	{`1 ftruncate 0 64`, api.Step{Pid: 1, Req: api.Req{No: 26, A: five(0, 64)}}},
	{`1 fstat 0`, api.Step{Pid: 1, Req: api.Req{No: 27}}},
	{`1 stat 1 "a"`, api.Step{Pid: 1, Req: api.Req{No: 28, A: five(1), S: "a"}}},
	{`1 fsync 2`, api.Step{Pid: 1, Req: api.Req{No: 29, A: five(2)}}},
	{`1 pread 0 2 1`, api.Step{Pid: 1, Req: api.Req{No: 30, A: five(0, 2, 1)}}},
	{`1 pwrite 0 100 "\x00"`, api.Step{Pid: 1, Req: api.Req{No: 31, A: five(0, 100), S: "\x00"}}},
	{`1 getdents 0 64`, api.Step{Pid: 1, Req: api.Req{No: 32, A: five(0, 64)}}},
	{`2 openat 3 512 "a/b"`, api.Step{Pid: 2, Req: api.Req{No: 33, A: five(3, 512), S: "a/b"}}},
	{`1 mkdirat -100 "a"`, api.Step{Pid: 1, Req: api.Req{No: 34, A: five(-100), S: "a"}}},
	{`1 unlinkat 0 1 "a"`, api.Step{Pid: 1, Req: api.Req{No: 35, A: five(0, 1), S: "a"}}},
	{`1 renameat 0 1 "a" "b"`, api.Step{Pid: 1, Req: api.Req{No: 36, A: five(0, 1), S: "a", T: "b"}}},
	{`1 linkat 3 4 0 "a" "b"`, api.Step{Pid: 1, Req: api.Req{No: 37, A: five(3, 4, 0), S: "a", T: "b"}}},
	{`1 symlinkat 5 "a\"" "\\b"`, api.Step{Pid: 1, Req: api.Req{No: 38, A: five(5), S: `a"`, T: `\b`}}},
	{`1 readlinkat 5 "a"`, api.Step{Pid: 1, Req: api.Req{No: 39, A: five(5), S: "a"}}},
	{`1 fstatat 5 1 "a"`, api.Step{Pid: 1, Req: api.Req{No: 40, A: five(5, 1), S: "a"}}},
	{`1 socket 0`, api.Step{Pid: 1, Req: api.Req{No: 41}}},
	{`1 socketpair 4`, api.Step{Pid: 1, Req: api.Req{No: 42, A: five(4)}}},
	{`1 bind 0 "s"`, api.Step{Pid: 1, Req: api.Req{No: 43, S: "s"}}},
	{`1 bindat 1 0 "s"`, api.Step{Pid: 1, Req: api.Req{No: 44, A: five(1), S: "s"}}},
	{`1 listen 0 8`, api.Step{Pid: 1, Req: api.Req{No: 45, A: five(0, 8)}}},
	{`1 connect 1 "s"`, api.Step{Pid: 1, Req: api.Req{No: 46, A: five(1), S: "s"}}},
	{`1 connectat 2 1 "s"`, api.Step{Pid: 1, Req: api.Req{No: 47, A: five(2, 1), S: "s"}}},
	{`1 accept 0 4`, api.Step{Pid: 1, Req: api.Req{No: 48, A: five(0, 4)}}},
	{`1 shutdown 0 2`, api.Step{Pid: 1, Req: api.Req{No: 49, A: five(0, 2)}}},
	{`1 send 0 "hi" [4]`, api.Step{Pid: 1, Req: api.Req{No: 50, S: "hi", L: []int{4}}}},
	{`1 recv 0 256 4`, api.Step{Pid: 1, Req: api.Req{No: 51, A: five(0, 256, 4)}}},
	{`1 poll 1 [0,1,1,3]`, api.Step{Pid: 1, Req: api.Req{No: 52, A: five(1), L: []int{0, 1, 1, 3}}}},
	{`1 pdfork`, api.Step{Pid: 1, Req: api.Req{No: 53}}},
	{`1 pdgetpid 0`, api.Step{Pid: 1, Req: api.Req{No: 54}}},
	{`1 pdkill 0 9`, api.Step{Pid: 1, Req: api.Req{No: 55, A: five(0, 9)}}},
	{`1 pdwait 0 1`, api.Step{Pid: 1, Req: api.Req{No: 56, A: five(0, 1)}}},
	{`2 cap_enter`, api.Step{Pid: 2, Req: api.Req{No: 57}}},
	{`2 cap_getmode`, api.Step{Pid: 2, Req: api.Req{No: 58}}},
	{`-1 cap_rights_limit 0 [1,2]`, api.Step{Pid: -1, Req: api.Req{No: 59, L: []int{1, 2}}}},
	{`1 cap_rights_get 0`, api.Step{Pid: 1, Req: api.Req{No: 60}}},
	{`1 cap_ioctls_limit 0 []`, api.Step{Pid: 1, Req: api.Req{No: 61}}},
	{`1 cap_ioctls_get 0`, api.Step{Pid: 1, Req: api.Req{No: 62}}},
	{`1 cap_fcntls_limit 0 120`, api.Step{Pid: 1, Req: api.Req{No: 63, A: five(0, 120)}}},
	{`1 cap_fcntls_get 63`, api.Step{Pid: 1, Req: api.Req{No: 64, A: five(63)}}},
}

// P30.2, P30.5: a line of every call, spelt out, and some that no call would take.
func TestLines(t *testing.T) {
	for i, x := range lines {
		if x.step.Req.No != i+1 {
			t.Errorf("the line %d is of the call %d", i+1, x.step.Req.No)
		}
	}
	for _, x := range append(lines[:len(lines):len(lines)], []struct {
		line string
		step api.Step
	}{
		{`1 exit 256`, api.Step{Pid: 1, Req: api.Req{No: 1, A: five(256)}}},
		{`1 read -1 -1`, api.Step{Pid: 1, Req: api.Req{No: 3, A: five(-1, -1)}}},
		{`1 open -1 ""`, api.Step{Pid: 1, Req: api.Req{No: 5, A: five(-1)}}},
		{`1 poll 2 [0]`, api.Step{Pid: 1, Req: api.Req{No: 52, A: five(2), L: []int{0}}}},
		{`1 send 0 "" [-1,-2,-3,-4,-5]`, api.Step{Pid: 1, Req: api.Req{No: 50, L: []int{-1, -2, -3, -4, -5}}}},
		{`1 cap_rights_limit 0 []`, api.Step{Pid: 1, Req: api.Req{No: 59, L: []int{}}}},
		{`9223372036854775807 exit -9223372036854775808`, api.Step{Pid: math.MaxInt, Req: api.Req{No: 1, A: five(math.MinInt)}}},
		{`-9223372036854775808 exit 9223372036854775807`, api.Step{Pid: math.MinInt, Req: api.Req{No: 1, A: five(math.MaxInt)}}},
		{`1 cap_ioctls_limit 0 [9223372036854775807,-9223372036854775808,0]`, api.Step{Pid: 1, Req: api.Req{No: 61, L: []int{math.MaxInt, math.MinInt, 0}}}},
		{`1 mkdir "\" [1] \\"`, api.Step{Pid: 1, Req: api.Req{No: 12, S: `" [1] \`}}},
		{`1 mkdir " "`, api.Step{Pid: 1, Req: api.Req{No: 12, S: " "}}},
		{`1 link "a \" \"b" "\" \""`, api.Step{Pid: 1, Req: api.Req{No: 8, S: `a " "b`, T: `" "`}}},
		{`1 mkdir "1 getpid\x0a1 getpid"`, api.Step{Pid: 1, Req: api.Req{No: 12, S: "1 getpid\n1 getpid"}}},
		{`1 mkdir "` + strings.Repeat(`\xff`, 5000) + `"`, api.Step{Pid: 1, Req: api.Req{No: 12, S: strings.Repeat("\xff", 5000)}}},
	}...) {
		if s := Show(x.step); s != x.line {
			t.Errorf("Show(%v): %s, not %s", x.step, s, x.line)
		}
		if s, e := Parse(x.line); !same(s, x.step) || e != api.OK {
			t.Errorf("Parse(%s): %v, %d", x.line, s, e)
		}
	}
}

// P30.2: no line has a step of no call, nor one with something that no letter stands for.
func TestShowNothing(t *testing.T) {
	for _, no := range []int{0, -1, 65, 66, 100, -64, 64 + 256, 1 + 1<<32, math.MaxInt, math.MinInt} {
		for _, r := range []api.Req{{No: no}, {No: no, A: five(1), S: "a", T: "b", L: []int{1}}} {
			if s := Show(api.Step{Pid: 1, Req: r}); s != "" {
				t.Errorf("Show(%v): %s", r, s)
			}
		}
	}
	for _, x := range lines {
		c := all[x.step.Req.No-1]
		for i := len(strings.Trim(c.shape, "SBYTLRIP")); i < 5; i++ {
			for _, n := range []int{1, -1, math.MaxInt, math.MinInt, 1 << 32} {
				s := x.step
				if s.Req.A[i] = n; Show(s) != "" {
					t.Errorf("Show(%v): %s", s, Show(s))
				}
			}
		}
		for _, text := range []string{"a", "\x00", " ", `""`} {
			s := x.step
			if s.Req.S = text; !strings.ContainsAny(c.shape, "SBY") && Show(s) != "" {
				t.Errorf("Show(%v): %s", s, Show(s))
			}
			s = x.step
			if s.Req.T = text; !strings.Contains(c.shape, "T") && Show(s) != "" {
				t.Errorf("Show(%v): %s", s, Show(s))
			}
		}
		for _, l := range [][]int{{0}, {1}, {0, 0}, {1, 2, 3}} {
			s := x.step
			if s.Req.L = l; !strings.ContainsAny(c.shape, "LRIP") && Show(s) != "" {
				t.Errorf("Show(%v): %s", s, Show(s))
			}
		}
		s := x.step
		if s.Req.L == nil {
			s.Req.L = []int{}
		}
		if Show(s) != x.line {
			t.Errorf("Show of %s with an empty list: %s", x.line, Show(s))
		}
	}
}

// P30.2: what is no step's line, spelt out.
func TestParseRefuses(t *testing.T) {
	for _, line := range []string{
		"", " ", "\n", "\t", "#", "# a", "1", "-1", "0", "1 ", " 1", "getpid", " getpid", "getpid 1", "a getpid", "\"1\" getpid", "[1] getpid", "- getpid", "1- getpid", "--1 getpid", "1.0 getpid", "1e1 getpid", "0x1 getpid", "1_0 getpid", "0b1 getpid", "१ getpid",
		"1 getpid ", " 1 getpid", "1  getpid", "1\tgetpid", "\t1 getpid", "1 getpid\t", "1 getpid\r", "1 getpid\n", "\n1 getpid", "1 getpid\x00", "\x001 getpid", "1 getpid #", "1\u00a0getpid", "1 getpid\u00a0", "\ufeff1 getpid", "1 getpid;", "1, getpid", "1getpid",
		"01 getpid", "+1 getpid", "-0 getpid", "00 getpid", "-01 getpid", "+0 getpid", "-+1 getpid", "9223372036854775808 getpid", "-9223372036854775809 getpid", "99999999999999999999999 getpid", "18446744073709551617 getpid", "1" + strings.Repeat("0", 1000) + " getpid",
		"1 Getpid", "1 GETPID", "1 getPid", "1 nothing", "1 get", "1 getpidd", "1 getpi", "1 14", "1 \"getpid\"", "1 cap", "1 cap_", "1 cap-enter", "1 cap_Enter", "1 CAP_ENTER", "1 cap enter", "1 Read 0 9", "1 ",
		"1 getpid 1", "1 getpid \"\"", "1 getpid []", "1 getpid 0",
		"1 read", "1 read ", "1 read 0", "1 read 0 ", "1 read 0 1 ", "1 read 0 1 2", "1 read  0 1", "1 read 0  1", " 1 read 0 1", "1 read 0\t1", "1 read 0,1", "1 read [0] 1", "1 read \"0\" 1", "1 read 0 +1", "1 read 0 01", "1 read 0 -0", "1 read -0 0", "1 read 0 1x", "1 read x 1", "1 read 0 9223372036854775808", "1 read -9223372036854775809 0", "1 read 0 \"\"", "1 read 0 []",
		"1 mkdir", "1 mkdir ", "1 mkdir a", "1 mkdir \"", "1 mkdir \"a", "1 mkdir a\"", "1 mkdir \"a\" ", "1 mkdir \"a\"b", "1 mkdir \"a\"\"\"", "1 mkdir \"a\" \"b\"", "1 mkdir  \"a\"", "1 mkdir 'a'", "1 mkdir \"a\\\"", "1 mkdir \"\\x0A\"", "1 mkdir \"\\x61\"", "1 mkdir \"\n\"", "1 mkdir \"é\"", "1 mkdir 0", "1 mkdir []", "1 mkdir\"a\"", "1 mkdir \"a\"\r", "1 mkdir \"a\" []",
		"1 link \"a\"", "1 link \"a\" ", "1 link \"a\"\"b\"", "1 link \"a\"  \"b\"", "1 link \"a\" b", "1 link \"a\" \"b", "1 link \"a\" \"b\" \"c\"", "1 link \"a\" \"b\" ", "1 link \"a \"b\"", "1 link a \"b\"",
		"1 write \"hi\" 1", "1 write 1", "1 write 1 hi", "1 write 1 \"hi\" []", "1 write 1\"hi\"",
		"1 send 0 \"\"", "1 send 0 \"\" ", "1 send 0 \"\" 1", "1 send 0 \"\" [", "1 send 0 \"\" ]", "1 send 0 \"\" [1", "1 send 0 \"\" 1]", "1 send 0 \"\" [1,]", "1 send 0 \"\" [,1]", "1 send 0 \"\" [,]", "1 send 0 \"\" [1,,2]", "1 send 0 \"\" [ ]", "1 send 0 \"\" [ 1]", "1 send 0 \"\" [1 ]", "1 send 0 \"\" [1, 2]", "1 send 0 \"\" [1 ,2]", "1 send 0 \"\" [1 2]", "1 send 0 \"\" [1;2]", "1 send 0 \"\" [[1]]", "1 send 0 \"\" [1]]", "1 send 0 \"\" [[1]", "1 send 0 \"\" [1][2]", "1 send 0 \"\" [1] ", "1 send 0 \"\"  [1]", "1 send 0 \"\" [1]x", "1 send 0 \"\" x[1]", "1 send 0 \"\"[1]",
		"1 send 0 \"\" [+1]", "1 send 0 \"\" [01]", "1 send 0 \"\" [-0]", "1 send 0 \"\" [-]", "1 send 0 \"\" [x]", "1 send 0 \"\" [\"1\"]", "1 send 0 \"\" [9223372036854775808]", "1 send 0 \"\" [1,-9223372036854775809]", "1 send 0 \"\" []]", "1 send 0 \"\" [[]", "1 send 0 \"\" ][", "1 send 0 \"\" {}", "1 send 0 \"\" ()", "1 send 0 \"\" [1] [2]", "1 send 0 \"\" []\n", "1 send 0 [1] \"\"",
		"1 linkat 3 4 \"a\" \"b\"", "1 linkat 3 4 0 0 \"a\" \"b\"", "1 linkat 3 4 0 \"a\"", "1 cap_rights_limit 0", "1 cap_rights_limit [1,2]", "1 poll [0,1]", "1 poll 0 0 1",
	} {
		if s, e := Parse(line); !same(s, api.Step{}) || s.Req.L != nil || e != api.EINVAL {
			t.Errorf("Parse(%q): %v, %d", line, s, e)
		}
		if _, ok := plainParse(line); ok {
			t.Errorf("the model takes %q", line)
		}
	}
}

// P30.2: lines of every call, cut off at each place, with each byte put in, taken out, and in the place of another one.
func TestParseBentLines(t *testing.T) {
	t.Parallel()
	right, wrong := 0, 0
	tried := func(line string) {
		if parsed(t, line) {
			right++
		} else {
			wrong++
		}
	}
	for _, x := range lines {
		for i := range len(x.line) + 1 {
			tried(x.line[:i])
			tried(x.line[i:])
			for _, c := range []string{" ", "\"", "\\", "[", "]", ",", "-", "0", "1", "a", "+", "\n"} {
				tried(x.line[:i] + c + x.line[i:])
				if i < len(x.line) {
					tried(x.line[:i] + c + x.line[i+1:])
				}
			}
			if i < len(x.line) {
				tried(x.line[:i] + x.line[i+1:])
			}
		}
	}
	if right < 2000 || wrong < 20000 {
		t.Error(right, wrong)
	}
}

// P30.2: numbers at the edges, wherever a number stands.
func TestParseNumbers(t *testing.T) {
	for _, x := range []struct {
		word string
		n    int
		ok   bool
	}{
		{"0", 0, true}, {"1", 1, true}, {"-1", -1, true}, {"10", 10, true}, {"-100", -100, true}, {"9223372036854775807", math.MaxInt, true}, {"-9223372036854775808", math.MinInt, true}, {"9223372036854775806", math.MaxInt - 1, true}, {"2147483648", 1 << 31, true}, {"4294967296", 1 << 32, true},
		{"", 0, false}, {"9223372036854775808", 0, false}, {"-9223372036854775809", 0, false}, {"18446744073709551616", 0, false}, {"18446744073709551615", 0, false}, {"-18446744073709551615", 0, false}, {"+0", 0, false}, {"+1", 0, false}, {"-0", 0, false}, {"00", 0, false}, {"01", 0, false}, {"-01", 0, false}, {"007", 0, false}, {"-", 0, false}, {"--1", 0, false}, {"1-", 0, false}, {"0x1", 0, false}, {"1_000", 0, false}, {"0_0", 0, false}, {"1.", 0, false}, {"1e3", 0, false}, {" 1", 0, false}, {"1 ", 0, false}, {"\t1", 0, false}, {"１", 0, false}, {"a", 0, false}, {"1a", 0, false},
	} {
		for _, y := range []struct {
			line string
			step api.Step
		}{
			{x.word + " getpid", api.Step{Pid: x.n, Req: api.Req{No: 14}}},
			{"1 close " + x.word, api.Step{Pid: 1, Req: api.Req{No: 6, A: five(x.n)}}},
			{"1 lseek " + x.word + " 2 3", api.Step{Pid: 1, Req: api.Req{No: 25, A: five(x.n, 2, 3)}}},
			{"1 lseek 1 " + x.word + " 3", api.Step{Pid: 1, Req: api.Req{No: 25, A: five(1, x.n, 3)}}},
			{"1 lseek 1 2 " + x.word, api.Step{Pid: 1, Req: api.Req{No: 25, A: five(1, 2, x.n)}}},
			{"1 write " + x.word + " \"a\"", api.Step{Pid: 1, Req: api.Req{No: 4, A: five(x.n), S: "a"}}},
			{"1 cap_ioctls_limit 0 [" + x.word + ",1]", api.Step{Pid: 1, Req: api.Req{No: 61, L: []int{x.n, 1}}}},
			{"1 cap_ioctls_limit 0 [1," + x.word + "]", api.Step{Pid: 1, Req: api.Req{No: 61, L: []int{1, x.n}}}},
			{"1 cap_ioctls_limit 0 [1," + x.word + ",2]", api.Step{Pid: 1, Req: api.Req{No: 61, L: []int{1, x.n, 2}}}},
		} {
			want, err := y.step, api.OK
			if !x.ok {
				want, err = api.Step{}, api.EINVAL
			}
			if s, e := Parse(y.line); !same(s, want) || e != err {
				t.Errorf("Parse(%q): %v, %d", y.line, s, e)
			}
		}
	}
}

// anyStep answers a step of any call, most often with what its letters stand for alone.
func anyStep(d func(n int) int) api.Step {
	number := func() int {
		return []int{0, 1, -1, d(10), d(1000), -d(1000), math.MaxInt, math.MinInt, d(1 << 30), -100}[d(10)]
	}
	text := func() string {
		b := make([]byte, d(8))
		for i := range b {
			if b[i] = byte(d(256)); d(2) == 0 {
				b[i] = "ab \"\\[]x\n"[d(9)]
			}
		}
		return string(b)
	}
	s := api.Step{Pid: number()}
	if s.Req.No = 1 + d(64); d(20) == 0 {
		s.Req.No = number()
	}
	shape := ""
	if s.Req.No >= 1 && s.Req.No <= 64 {
		shape = all[s.Req.No-1].shape
	}
	for i := range s.Req.A {
		if i < len(strings.Trim(shape, "SBYTLRIP")) || d(40) == 0 {
			s.Req.A[i] = number()
		}
	}
	if strings.ContainsAny(shape, "SBY") || d(20) == 0 {
		s.Req.S = text()
	}
	if strings.Contains(shape, "T") || d(20) == 0 {
		s.Req.T = text()
	}
	if strings.ContainsAny(shape, "LRIP") || d(20) == 0 {
		for range d(5) {
			s.Req.L = append(s.Req.L, number())
		}
	}
	return s
}

// P30.2, P30.5: steps of any sort there and back, and their lines with a byte that is another one.
func TestThereAndBack(t *testing.T) {
	t.Parallel()
	d, count := dice(302), map[string]int{}
	for range 20000 {
		s := anyStep(d)
		line := Show(s)
		if line != plainShow(s) {
			t.Fatalf("Show(%v): %s, not %s", s, line, plainShow(s))
		}
		if line == "" {
			count["no line"]++
			continue
		}
		count[all[s.Req.No-1].name]++
		if got, e := Parse(line); !same(got, s) || e != api.OK {
			t.Fatalf("Parse(%s): %v, %d, not %v", line, got, e, s)
		}
		at := d(len(line))
		bent := line[:at] + string([]byte{byte(d(256))}) + line[at+1:]
		if d(2) == 0 {
			at, to := d(len(line)), d(len(line))
			bent = line[:min(at, to)] + line[max(at, to):]
		}
		if parsed(t, bent) {
			count["bent, right"]++
		} else {
			count["bent, wrong"]++
		}
	}
	often(t, count, 500, "no line", "bent, right", "bent, wrong")
	for _, c := range all {
		often(t, count, 50, c.name)
	}
}
