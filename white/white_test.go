package white

import (
	"math"
	"slices"
	"strconv"
	"strings"
	"testing"

	"purlieu/api"
)

// upTo answers n commands from first on, step apart.
func upTo(n, first, step int) []int {
	var l []int
	for i := range n {
		l = append(l, first+i*step)
	}
	return l
}

func just(l ...int) api.List { return api.List{L: l} }

func same(a, b api.List) bool { return a.All == b.All && slices.Equal(a.L, b.L) }

func isNone(a api.List) bool { return !a.All && len(a.L) == 0 }

// goods are whitelists: the edges, and some of the middle.
func goods() []api.List {
	return []api.List{
		{}, {L: []int{}}, {All: true}, {All: true, L: []int{}},
		just(0), just(1), just(2), just(0, 1), just(1, 2), just(1, 3), just(0, 1, 2, 3),
		just(math.MaxInt), just(0, math.MaxInt), just(31, 32, 33),
		just(upTo(api.MaxCmds, 0, 1)...), just(upTo(api.MaxCmds, 1, 1)...), just(upTo(api.MaxCmds, 0, 7)...),
		just(upTo(api.MaxCmds-1, 0, 1)...),
	}
}

// bads are no whitelists, each for one reason alone where that can be.
func bads() []api.List {
	return []api.List{
		just(2, 1), just(1, 1), just(0, 0), just(0, 2, 2), just(1, 2, 0), just(5, 6, 7, 6),
		just(-1), just(-1, 0, 1), just(math.MinInt), just(math.MinInt, math.MaxInt), just(0, -1),
		just(upTo(api.MaxCmds+1, 0, 1)...), just(upTo(1000, 0, 1)...),
		{All: true, L: []int{1}}, {All: true, L: []int{0}}, {All: true, L: []int{-1}}, {All: true, L: upTo(api.MaxCmds, 0, 1)},
	}
}

// asked are the commands that are asked of each whitelist.
func asked() []int {
	return append(upTo(300, -3, 1), math.MinInt, math.MinInt+1, math.MaxInt-1, math.MaxInt)
}

// held says from the words of the chapter whether a whitelist has a command.
func held(a api.List, cmd int) bool { return cmd >= 0 && (a.All || slices.Contains(a.L, cmd)) }

// roomy answers a list with marks in its spare room, and a look at all of it.
func roomy(l []int) ([]int, []int) {
	whole := append(slices.Clone(l), 77, 77, 77)
	return whole[:len(l)], whole
}

// P2.1
func TestWhatAWhitelistIs(t *testing.T) {
	for _, a := range goods() {
		if !Can(a) {
			t.Errorf("Can(%v) = false", a)
		}
	}
	for _, a := range bads() {
		if Can(a) {
			t.Errorf("Can(%v) = true", a)
		}
	}
	if a := All(); !a.All || len(a.L) != 0 || !Can(a) {
		t.Errorf("All() = %v", a)
	}
}

// P2.1
func TestMake(t *testing.T) {
	full := upTo(api.MaxCmds, 0, 1)
	falls := slices.Clone(full)
	slices.Reverse(falls)
	for _, c := range []struct{ l, want []int }{
		{nil, nil},
		{[]int{}, nil},
		{[]int{0}, []int{0}},
		{[]int{3, 1, 3}, []int{1, 3}},
		{[]int{7, 7, 7, 7}, []int{7}},
		{[]int{math.MaxInt, 0}, []int{0, math.MaxInt}},
		{full, full},
		{falls, full},
		{append(slices.Clone(full), full...), full},
		{append(slices.Clone(full), 3), full},
		{upTo(api.MaxCmds, 100, 1000), upTo(api.MaxCmds, 100, 1000)},
		{slices.Repeat([]int{5, 4}, 1000), []int{4, 5}},
	} {
		if a, err := Make(c.l); err != api.OK || !same(a, just(c.want...)) {
			t.Errorf("Make(%v) = %v, %v, want %v", c.l, a, err, c.want)
		}
	}
}

// wrongs are commands of which there is no whitelist.
func wrongs() [][]int {
	return [][]int{
		{-1}, {0, -1}, {-1, -1}, {1, 2, math.MinInt, 3}, {math.MaxInt, -1},
		upTo(api.MaxCmds+1, 0, 1), upTo(api.MaxCmds+1, 5, 9), append(upTo(api.MaxCmds, 0, 1), math.MaxInt),
		append(upTo(api.MaxCmds+1, 0, 1), 0, 1), append(upTo(api.MaxCmds, 0, 1), -1), upTo(2000, 0, 1),
	}
}

// P2.1
func TestMakeRefuses(t *testing.T) {
	for _, l := range wrongs() {
		if a, err := Make(l); err != api.EINVAL || !isNone(a) {
			t.Errorf("Make(%v) = %v, %v, want none, EINVAL", l, a, err)
		}
	}
}

// P2.2
func TestHas(t *testing.T) {
	for _, a := range goods() {
		for _, cmd := range asked() {
			if Has(a, cmd) != held(a, cmd) {
				t.Errorf("Has(%v, %d) = %t", a, cmd, !held(a, cmd))
			}
		}
	}
	for _, a := range bads() {
		for _, cmd := range asked() {
			if Has(a, cmd) {
				t.Errorf("Has(%v, %d) = true of what is no whitelist", a, cmd)
			}
		}
	}
}

// inside says from the words of the chapter whether each command of a is in b.
func inside(a, b api.List) bool {
	if a.All {
		return b.All
	}
	return !slices.ContainsFunc(a.L, func(cmd int) bool { return !held(b, cmd) })
}

// P2.2
func TestSubset(t *testing.T) {
	for _, a := range goods() {
		for _, b := range goods() {
			if Subset(a, b) != inside(a, b) {
				t.Errorf("Subset(%v, %v) = %t", a, b, !inside(a, b))
			}
		}
		if !Subset(a, a) || !Subset(a, All()) || !Subset(api.List{}, a) || Subset(All(), a) != a.All {
			t.Errorf("edges of Subset at %v", a)
		}
	}
}

// P2.2
func TestAnd(t *testing.T) {
	for _, a := range goods() {
		for _, b := range goods() {
			c := And(a, b)
			if !Can(c) || c.All != (a.All && b.All) || !same(c, And(b, a)) {
				t.Errorf("And(%v, %v) = %v", a, b, c)
			}
			for _, cmd := range asked() {
				if held(c, cmd) != (held(a, cmd) && held(b, cmd)) {
					t.Errorf("And(%v, %v) = %v, at %d", a, b, c, cmd)
				}
			}
		}
	}
}

// P2.2
func TestOfNoWhitelistNothingIsSaid(t *testing.T) {
	for _, bad := range bads() {
		for _, a := range slices.Concat(goods(), bads()) {
			if Subset(bad, a) || Subset(a, bad) {
				t.Errorf("Subset of %v and %v", bad, a)
			}
			if !isNone(And(bad, a)) || !isNone(And(a, bad)) {
				t.Errorf("And of %v and %v", bad, a)
			}
		}
	}
}

// P2.3, P2.5
func TestLimit(t *testing.T) {
	for _, old := range goods() {
		for _, l := range [][]int{
			nil, {}, {0}, {1}, {2}, {3, 1, 3}, {1, 3}, {2, 1, 0}, {3, 2, 1, 0, 0}, {math.MaxInt}, {33, 32, 31},
			upTo(api.MaxCmds, 0, 1), upTo(api.MaxCmds, 1, 1), upTo(api.MaxCmds, 0, 7), append(upTo(api.MaxCmds, 0, 1), 0),
		} {
			checkLimit(t, old, l)
		}
	}
}

func checkLimit(t *testing.T, old api.List, l []int) {
	a, err := Limit(old, l)
	if slices.ContainsFunc(l, func(cmd int) bool { return !held(old, cmd) }) {
		if err != api.ENOTCAPABLE || !isNone(a) {
			t.Errorf("Limit(%v, %v) = %v, %v, want none, ENOTCAPABLE", old, l, a, err)
		}
		return
	}
	want := slices.Clone(l)
	slices.Sort(want)
	if err != api.OK || !same(a, just(slices.Compact(want)...)) || !inside(a, old) {
		t.Errorf("Limit(%v, %v) = %v, %v", old, l, a, err)
	}
}

// P2.3
func TestLimitRefuses(t *testing.T) {
	for _, old := range slices.Concat(goods(), bads()) {
		for _, l := range wrongs() {
			if a, err := Limit(old, l); err != api.EINVAL || !isNone(a) {
				t.Errorf("Limit(%v, %v) = %v, %v, want none, EINVAL", old, l, a, err)
			}
		}
	}
	for _, old := range bads() {
		for _, l := range [][]int{nil, {0}, {1}, {4, 2}, {999999}} {
			if a, err := Limit(old, l); err != api.EINVAL || !isNone(a) {
				t.Errorf("Limit(%v, %v) = %v, %v, want none, EINVAL", old, l, a, err)
			}
		}
	}
}

// The bits that fcntl has, from the least to the last.
var fcntls = []int{api.FcntlGetfl, api.FcntlSetfl, api.FcntlGetown, api.FcntlSetown}

// masks are all sets of these bits.
func masks() []int {
	l := []int{0}
	for _, bit := range fcntls {
		for _, m := range l {
			l = append(l, m+bit)
		}
	}
	return l
}

// beyond are sets with a bit that fcntl has not.
func beyond() []int {
	l := []int{-1, math.MinInt, math.MaxInt, -api.FcntlGetfl, api.FcntlAll + 1, ^api.FcntlAll}
	for i := range strconv.IntSize {
		if bit := 1 << i; !slices.Contains(fcntls, bit) {
			l = append(l, bit, bit|api.FcntlAll, bit|api.FcntlGetfl)
		}
	}
	return l
}

// P2.3, P2.5
func TestMask(t *testing.T) {
	for _, old := range masks() {
		for _, mask := range masks() {
			want, wantErr := mask, api.OK
			for _, bit := range fcntls {
				if mask/bit%2 == 1 && old/bit%2 == 0 {
					want, wantErr = 0, api.ENOTCAPABLE
				}
			}
			if m, err := Mask(old, mask); m != want || err != wantErr {
				t.Errorf("Mask(%d, %d) = %d, %v, want %d, %v", old, mask, m, err, want, wantErr)
			}
		}
	}
	if len(masks()) != 16 {
		t.Errorf("%d sets", len(masks()))
	}
}

// P2.3
func TestMaskRefuses(t *testing.T) {
	for _, b := range beyond() {
		for _, m := range slices.Concat(masks(), beyond()) {
			if got, err := Mask(m, b); got != 0 || err != api.EINVAL {
				t.Errorf("Mask(%d, %d) = %d, %v, want 0, EINVAL", m, b, got, err)
			}
			if got, err := Mask(b, m); got != 0 || err != api.EINVAL {
				t.Errorf("Mask(%d, %d) = %d, %v, want 0, EINVAL", b, m, got, err)
			}
		}
	}
}

// P2.4
func TestShow(t *testing.T) {
	for _, c := range []struct {
		a    api.List
		want string
	}{
		{All(), "all"},
		{api.List{All: true, L: []int{}}, "all"},
		{api.List{}, "none"},
		{api.List{L: []int{}}, "none"},
		{just(0), "0"},
		{just(0, 1, 5), "0,1,5"},
		{just(10, 200, 3000), "10,200,3000"},
		{just(math.MaxInt), strconv.Itoa(math.MaxInt)},
		{just(upTo(api.MaxCmds, 0, 1)...), "0,1,2,3,4,5,6,7,8,9,10,11,12,13,14,15,16,17,18,19,20,21,22,23,24,25,26,27,28,29,30,31"},
	} {
		if got := Show(c.a); got != c.want {
			t.Errorf("Show(%v) = %q, want %q", c.a, got, c.want)
		}
	}
	for _, a := range bads() {
		if got := Show(a); got != "" {
			t.Errorf("Show(%v) = %q of what is no whitelist", a, got)
		}
	}
}

// P2.4: different whitelists have different texts.
func TestShowTellsThemApart(t *testing.T) {
	for _, a := range goods() {
		for _, b := range goods() {
			if (Show(a) == Show(b)) != same(a, b) || strings.Contains(Show(a), " ") {
				t.Errorf("Show of %v and %v: %q and %q", a, b, Show(a), Show(b))
			}
		}
	}
}

// P2.5: however often it is limited, nothing comes back.
func TestOnlyLess(t *testing.T) {
	old, first := just(1, 3, 5), just(1, 3, 5)
	for _, l := range [][]int{{5, 3}, {1}, {3, 5, 3}, {1, 3, 5}, {5}, nil, {5}, {}} {
		a, err := Limit(old, l)
		if err != api.OK {
			continue
		}
		if !inside(a, old) || !inside(a, first) {
			t.Errorf("Limit(%v, %v) = %v", old, l, a)
		}
		old = a
	}
	if !isNone(old) {
		t.Errorf("left: %v", old)
	}
	mask := api.FcntlAll
	for _, m := range masks() {
		got, err := Mask(mask, m)
		if err == api.OK {
			if got&^mask != 0 {
				t.Errorf("Mask(%d, %d) = %d", mask, m, got)
			}
			mask = got
		}
	}
	if mask != 0 {
		t.Errorf("left: %d", mask)
	}
}

// The rule of memory, for each call that takes a list: nothing of it is changed, nor shared with the answer.
func TestMemory(t *testing.T) {
	for _, l := range [][]int{{3, 1, 3}, {1, 3}, {5}, {}, {-2, -1}, upTo(api.MaxCmds+1, 0, 1)} {
		for _, old := range []api.List{All(), just(1, 3, 5), just(2, 1), {}} {
			checkMemory(t, l, old)
		}
	}
}

func checkMemory(t *testing.T, list []int, old api.List) {
	l, whole := roomy(list)
	var oldWhole []int
	old.L, oldWhole = roomy(old.L)
	wasList, wasOld := slices.Clone(whole), slices.Clone(oldWhole)
	made, _ := Make(l)
	limited, _ := Limit(old, l)
	raw := api.List{L: l}
	answers := []api.List{made, limited, And(raw, old), And(old, raw), And(old, old), And(All(), raw), And(raw, All()), All()}
	Can(raw)
	Has(raw, 1)
	Subset(raw, old)
	Subset(old, raw)
	Show(raw)
	told := make([]string, len(answers))
	for i, a := range answers {
		told[i] = Show(a)
	}
	for i := range answers {
		scribble(answers[i].L)
		for j := i + 1; j < len(answers); j++ {
			if Show(answers[j]) != told[j] {
				t.Errorf("answers %d and %d share memory, of %v and %v", i, j, list, old)
			}
		}
	}
	if !slices.Equal(whole, wasList) || !slices.Equal(oldWhole, wasOld) {
		t.Errorf("an argument is changed: %v of %v, %v of %v", whole, wasList, oldWhole, wasOld)
	}
}

// scribble writes over a list, its spare room included.
func scribble(l []int) {
	l = l[:cap(l)]
	for i := range l {
		l[i] = -9
	}
}

// P2.1, P2.3: the chapter's example.
func TestExample(t *testing.T) {
	a, err := Make([]int{3, 1, 3})
	if err != api.OK || Show(a) != "1,3" {
		t.Errorf("Make = %v, %v", a, err)
	}
	if b, err := Limit(a, []int{2}); err != api.ENOTCAPABLE || !isNone(b) {
		t.Errorf("Limit = %v, %v", b, err)
	}
}
