package script

import (
	"slices"
	"strings"
	"testing"

	"purlieu/api"
)

// alike tells whether two lists of steps are.
func alike(a, b []api.Step) bool { return slices.EqualFunc(a, b, same) }

// P30.3: scripts, spelt out.
func TestScript(t *testing.T) {
	one, two := api.Step{Pid: 1, Req: api.Req{No: 14}}, api.Step{Pid: 2, Req: api.Req{No: 2}}
	for _, x := range []struct {
		text  string
		steps []api.Step
		no    int
	}{
		{"", nil, 0},
		{"\n", nil, 0},
		{"\n\n\n", nil, 0},
		{"#", nil, 0},
		{"#\n", nil, 0},
		{"# a\n#b\n##\n#1 getpid", nil, 0},
		{"# \x00\xff\r\t\"", nil, 0},
		{"1 getpid", []api.Step{one}, 0},
		{"1 getpid\n", []api.Step{one}, 0},
		{"\n1 getpid", []api.Step{one}, 0},
		{"\n\n1 getpid\n\n", []api.Step{one}, 0},
		{"1 getpid\n2 fork", []api.Step{one, two}, 0},
		{"2 fork\n1 getpid\n", []api.Step{two, one}, 0},
		{"1 getpid\n1 getpid\n1 getpid", []api.Step{one, one, one}, 0},
		{"# a\n1 getpid\n\n2 fork\n", []api.Step{one, two}, 0},
		{"1 getpid\n# 2 fork\n#", []api.Step{one}, 0},
		{"1 mkdir \"#\\x0a#\"", []api.Step{{Pid: 1, Req: api.Req{No: 12, S: "#\n#"}}}, 0},
		{" ", nil, 1},
		{"x", nil, 1},
		{" #", nil, 1},
		{"\t#", nil, 1},
		{"\r", nil, 1},
		{"\r\n", nil, 1},
		{"1 getpid\r\n2 fork\r\n", nil, 1},
		{"1 getpid\n \n2 fork", nil, 2},
		{"1 getpid\n #\n2 fork", nil, 2},
		{"1 getpid\n#\nx", nil, 3},
		{"1 getpid\n\n\nx", nil, 4},
		{"\n\nx", nil, 3},
		{"x\ny\nz", nil, 1},
		{"1 getpid\nx\ny", nil, 2},
		{"1 getpid\n2 fork ", nil, 2},
		{"1 getpid\n2 fork\n ", nil, 3},
		{"1 getpid#", nil, 1},
		{"1 getpid # a", nil, 1},
		{"1 getpid;2 fork", nil, 1},
		{"1 getpid\r2 fork", nil, 1},
		{"1 getpid\v2 fork", nil, 1},
		{"1 getpid\u20282 fork", nil, 1},
		{"1 getpid\x00\n2 fork", nil, 1},
		{"1 mkdir \"a\nb\"", nil, 1},
		{"; a", nil, 1},
		{"// a", nil, 1},
		{"\ufeff# a", nil, 1},
	} {
		err := api.OK
		if x.no != 0 {
			err = api.EINVAL
		}
		steps, no, e := Script(x.text)
		if !alike(steps, x.steps) || no != x.no || e != err {
			t.Errorf("Script(%q): %v, %d, %d", x.text, steps, no, e)
		}
		if e != api.OK && steps != nil {
			t.Errorf("Script(%q): steps beside an error", x.text)
		}
	}
}

// P30.3: a wrong line at each place of a script, and two of them; what is behind the first one plays no part.
func TestScriptWrongAtEachPlace(t *testing.T) {
	good := []string{"# made", "1 pipe 0", "", "1 fork", "2 read 0 9", "#", "1 write 1 \"hi\"", "", "", "2 getpid"}
	if steps, no, e := Script(strings.Join(good, "\n")); len(steps) != 5 || no != 0 || e != api.OK {
		t.Error(steps, no, e)
	}
	for i := range good {
		for _, bad := range []string{" ", "x", " # made", "1 pipe", "1 pipe 0 ", "1  fork", "\r", "3 send 0 \"\" [1,]"} {
			for j := i; j < len(good); j++ {
				l := slices.Clone(good)
				l[i], l[j] = bad, bad
				for _, end := range []string{"", "\n"} {
					if steps, no, e := Script(strings.Join(l, "\n") + end); steps != nil || no != i+1 || e != api.EINVAL {
						t.Errorf("Script with %q at %d and %d: %v, %d, %d", bad, i+1, j+1, steps, no, e)
					}
				}
			}
		}
	}
}

// P30.3: scripts of any lines, each held against the model.
func TestScriptAnyLines(t *testing.T) {
	t.Parallel()
	d, count := dice(303), map[string]int{}
	other := []string{"", "", "#", "# a", "#1 getpid", "##"}
	wrong := []string{" ", " #", "x", "1 getpid ", "\r", "\x00"}
	for range 5000 {
		var l []string
		for range d(12) {
			switch n := d(24); {
			case n == 0:
				l = append(l, wrong[d(len(wrong))])
			case n < 8:
				l = append(l, other[d(len(other))])
			default:
				l = append(l, lines[d(len(lines))].line)
			}
		}
		var want []api.Step
		first, err := 0, api.OK
		for i, line := range l {
			if s, ok := plainParse(line); ok {
				want = append(want, s)
			} else if line != "" && line[0] != '#' {
				want, first, err = nil, i+1, api.EINVAL
				break
			}
		}
		text := strings.Join(l, "\n")
		if d(2) == 0 {
			text += "\n"
		}
		steps, no, e := Script(text)
		if !alike(steps, want) || no != first || e != err {
			t.Fatalf("Script(%q): %v, %d, %d", text, steps, no, e)
		}
		if e == api.OK {
			count["right"]++
		} else {
			count["wrong"]++
		}
	}
	often(t, count, 1000, "right", "wrong")
}

// P30.3, P30.5: all lines of a script of many steps, there and back.
func TestScriptThereAndBack(t *testing.T) {
	d := dice(304)
	var want []api.Step
	text := ""
	for len(want) < api.MaxSteps+1 {
		s := anyStep(d)
		if line := Show(s); line != "" {
			want, text = append(want, s), text+line+"\n"
		}
	}
	if steps, no, e := Script(text); !alike(steps, want) || no != 0 || e != api.OK {
		t.Error(len(steps), no, e)
	}
	if steps, no, e := Script(text + "1"); steps != nil || no != len(want)+1 || e != api.EINVAL {
		t.Error(len(steps), no, e)
	}
}
