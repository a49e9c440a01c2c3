package reqs

import (
	"math"
	"reflect"
	"slices"
	"strings"
	"testing"

	"purlieu/api"
	"purlieu/calls"
)

// brief is a request without the bytes of its texts, to be told of.
func brief(r api.Req) []any {
	return []any{r.No, r.A, len(r.S), len(r.T), r.L}
}

// checked says what Check tells.
func checked(t *testing.T, r api.Req, want api.Errno) {
	t.Helper()
	if e := Check(r); e != want {
		t.Errorf("Check(%v): %d, not %d", brief(r), e, want)
	}
}

// asked holds all that is told of a request against the document's words.
func asked(t *testing.T, r api.Req) {
	t.Helper()
	want := wanted(r)
	checked(t, r, want)
	for _, capability := range []bool{false, true} {
		if e, g := Gate(r, capability), gated(r, capability); e != g {
			t.Errorf("Gate(%v, %v): %d, not %d", brief(r), capability, e, g)
		}
	}
	plain := api.Req{No: r.No}
	if want == api.OK {
		plain = r
	}
	if p := Plain(r); !same(p, plain) {
		t.Errorf("Plain(%v): %v", brief(r), brief(p))
	}
}

// same tells whether two requests are alike; nil and empty lists are.
func same(a, b api.Req) bool {
	return a.No == b.No && a.A == b.A && a.S == b.S && a.T == b.T && slices.Equal(a.L, b.L)
}

// numbers5 answers five numbers, the first ones as handed in.
func numbers5(l ...int) (a [5]int) {
	copy(a[:], l)
	return a
}

// P16.1: each letter with a least and a greatest number.
func TestTakesSpans(t *testing.T) {
	for c, span := range spans {
		least, most := span[0], span[1]
		for _, n := range []int{least, most, least/2 + most/2, 0} {
			if !Takes(c, n) {
				t.Errorf("Takes(%c, %d): false", c, n)
			}
		}
		if least == math.MinInt {
			continue
		}
		for _, n := range []int{least - 1, most + 1, -most, math.MinInt, math.MaxInt, math.MinInt32} {
			if (n < least || n > most) && Takes(c, n) {
				t.Errorf("Takes(%c, %d): true", c, n)
			}
		}
	}
}

// P16.1: a row for each letter, spelt out.
func TestTakesEdges(t *testing.T) {
	for _, x := range []struct {
		c    byte
		n    int
		want bool
	}{
		{'f', -100, true}, {'d', -100, true}, {'x', math.MinInt, true}, {'i', math.MaxInt, true}, {'f', 64, true}, {'d', 64, true},
		{'n', -1, false}, {'n', 0, true}, {'n', 256, true}, {'n', 257, false},
		{'o', -1, false}, {'o', 0, true}, {'o', 1 << 40, true}, {'o', 1<<40 + 1, false}, {'o', 65537, true}, {'o', 1 << 41, false},
		{'w', -1, false}, {'w', 0, true}, {'w', 1, true}, {'w', 2, true}, {'w', 3, false},
		{'h', -1, false}, {'h', 0, true}, {'h', 1, true}, {'h', 2, true}, {'h', 3, false},
		{'u', -1, false}, {'u', 0, true}, {'u', 1, true}, {'u', 2, false},
		{'e', -1, false}, {'e', 0, true}, {'e', 255, true}, {'e', 256, false},
		{'s', -1, false}, {'s', 0, true}, {'s', 31, true}, {'s', 32, false},
		{'m', -1, false}, {'m', 0, true}, {'m', 4, true}, {'m', 5, false},
		{'c', -1, false}, {'c', 0, true}, {'c', 64, true}, {'c', 65, false},
		{'b', -1, false}, {'b', 0, true}, {'b', 1 << 20, true}, {'b', 1<<20 + 1, false},
		{'k', -4, false}, {'k', -1, false}, {'k', 0, true}, {'k', 1, false}, {'k', 2, false}, {'k', 3, false}, {'k', 4, true}, {'k', 5, false}, {'k', 8, false}, {'k', 12, false}, {'k', 4 + 1<<32, false},
		{'g', -1, false}, {'g', 0, true}, {'g', 1, true}, {'g', 2, true}, {'g', 3, false}, {'g', 4, true}, {'g', 8, true}, {'g', 0x10, false},
		{'g', 0x400, false}, {'g', 0x401, true}, {'g', 0x402, true}, {'g', 0x20000, true}, {'g', 0x200, true}, {'g', 0x20200, false}, {'g', 0x40000, false},
	} {
		if got := Takes(x.c, x.n); got != x.want {
			t.Errorf("Takes(%c, %d): %v", x.c, x.n, got)
		}
	}
}

// P16.1: a byte that is no small letter of a shape takes nothing.
func TestTakesOtherBytes(t *testing.T) {
	const letters = "fdxinowhuesmcbkg"
	others := 0
	for b := range 256 {
		if strings.IndexByte(letters, byte(b)) >= 0 {
			continue
		}
		others++
		for _, n := range append(edges(), 0, 1, 2, 3, 4) {
			if Takes(byte(b), n) {
				t.Errorf("Takes(%q, %d): true", byte(b), n)
			}
		}
	}
	if others != 256-len(letters) {
		t.Errorf("%d other bytes", others)
	}
}

// P16.1: g takes what calls.Flags takes, over all flags up to one bit beyond the greatest.
func TestTakesFlags(t *testing.T) {
	for n := range 1 << 19 {
		_, e := calls.Flags(n)
		if got := Takes('g', n); got != (e == api.OK) || got != flagged(n) {
			t.Errorf("Takes(g, %#x): %v", n, got)
		}
	}
	for _, n := range edges() {
		if got := Takes('g', n); got != flagged(n) {
			t.Errorf("Takes(g, %#x): %v", n, got)
		}
	}
}

// P16.1: all letters, from far below the least to far beyond most of the greatest numbers.
func TestTakesAll(t *testing.T) {
	for _, c := range []byte("fdxinowhuesmcbkg") {
		for n := -600; n <= 600; n++ {
			if got := Takes(c, n); got != may(c, n) {
				t.Errorf("Takes(%c, %d): %v", c, n, got)
			}
		}
		for _, n := range edges() {
			if got := Takes(c, n); got != may(c, n) {
				t.Errorf("Takes(%c, %d): %v", c, n, got)
			}
		}
	}
}

// P16.2: each of the calls with what its letters may be, all least ones, and with nothing.
func TestCheckGood(t *testing.T) {
	if len(known) != api.Calls {
		t.Fatalf("%d calls are known", len(known))
	}
	for i, k := range known {
		if c, _ := calls.Get(k.no); k.no != i+1 || c.Shape != k.shape || c.Gate != k.gate {
			t.Fatalf("%d is not %v", k.no, c)
		}
		checked(t, good(k.no), api.OK)
		want := api.OK
		if k.shape == "fR" {
			want = api.EINVAL
		}
		checked(t, api.Req{No: k.no}, want)
	}
}

// P16.2
func TestCheckOfNoCall(t *testing.T) {
	for _, no := range noCalls() {
		for _, r := range []api.Req{{}, good(read), good(linkat), good(send), {A: numbers5(-1, -1, -1, -1, -1), S: strings.Repeat("x", 5000), T: strings.Repeat("x", 5000), L: pairs(99, 9)}} {
			r.No = no
			checked(t, r, api.ENOSYS)
		}
	}
}

// P16.2: each number of each call, from edge to edge; that of the letter, and those that none stands for.
func TestCheckNumbers(t *testing.T) {
	for _, k := range known {
		for i := range 5 {
			for _, n := range edges() {
				r := good(k.no)
				r.A[i] = n
				asked(t, r)
			}
		}
	}
}

// P16.2: numbers beyond those that a shape takes are 0, each of them.
func TestCheckNumbersBeyond(t *testing.T) {
	for _, k := range known {
		taken := len(strings.TrimRight(k.shape, "STYBLRIP"))
		for i := taken; i < 5; i++ {
			for _, n := range []int{1, -1, 4, api.AtCwd, 1 << 32, math.MinInt, math.MaxInt} {
				r := good(k.no)
				r.A[i] = n
				checked(t, r, api.EINVAL)
			}
			r := good(k.no)
			r.A[i] = 0
			checked(t, r, api.OK)
		}
	}
	checked(t, api.Req{No: linkat, A: numbers5(3, 4, 1)}, api.OK)
	checked(t, api.Req{No: linkat, A: numbers5(3, 4, 1, 1)}, api.EINVAL)
	checked(t, api.Req{No: linkat, A: numbers5(3, 4, 2)}, api.EINVAL)
	checked(t, api.Req{No: linkat, A: numbers5(3, 4, 0, 0, 1)}, api.EINVAL)
	checked(t, api.Req{No: capEnter, A: numbers5(0, 0, 0, 0, 1)}, api.EINVAL)
}

// P16.2: the numbers stand for the small letters in their order.
func TestCheckOrder(t *testing.T) {
	for _, x := range []struct {
		no   int
		a    [5]int
		want api.Errno
	}{
		{read, numbers5(0, 5), api.OK}, {read, numbers5(0, 300), api.EINVAL}, {read, numbers5(300, 0), api.OK},
		{pread, numbers5(900, 256, 1<<40), api.OK}, {pread, numbers5(0, 257, 0), api.EINVAL}, {pread, numbers5(0, 0, 257), api.OK}, {pread, numbers5(0, 1<<40, 5), api.EINVAL},
		{lseek, numbers5(-1, -1, 2), api.OK}, {lseek, numbers5(2, 2, 3), api.EINVAL}, {lseek, numbers5(2, 3, 2), api.OK},
		{recv, numbers5(0, 256, 4), api.OK}, {recv, numbers5(0, 4, 256), api.EINVAL}, {recv, numbers5(0, 4, 5), api.EINVAL},
		{openat, numbers5(3, 0), api.OK}, {openat, numbers5(3, 3), api.EINVAL}, {openat, numbers5(0, 1), api.OK},
		{wait, numbers5(9, 1), api.OK}, {wait, numbers5(1, 9), api.EINVAL},
		{listen, numbers5(0, 1<<20), api.OK}, {listen, numbers5(0, 1<<20+1), api.EINVAL},
		{linkat, numbers5(9, 9, 1), api.OK}, {linkat, numbers5(1, 1, 9), api.EINVAL}, {linkat, numbers5(1, 9, 1), api.OK},
		{pwrite, numbers5(1, 1<<40), api.OK}, {pwrite, numbers5(1<<40, 1<<40+1), api.EINVAL},
		{exit, numbers5(255), api.OK}, {exit, numbers5(256), api.EINVAL}, {exit, numbers5(-1), api.EINVAL},
	} {
		checked(t, api.Req{No: x.no, A: x.a}, x.want)
	}
}

// P16.2: the bounds of texts, spelt out.
func TestCheckTextBounds(t *testing.T) {
	for _, x := range []struct {
		no, s, t int
		want     api.Errno
	}{
		{fork, 1, 0, api.EINVAL}, {fork, 0, 1, api.EINVAL}, {closes, 1, 0, api.EINVAL}, {recv, 1, 0, api.EINVAL}, {poll, 1, 0, api.EINVAL}, {poll, 0, 1, api.EINVAL}, {rightsLimit, 1, 0, api.EINVAL},
		{open, 4096, 0, api.OK}, {open, 4097, 0, api.EINVAL}, {open, 0, 1, api.EINVAL}, {open, 0, 0, api.OK},
		{write, 256, 0, api.OK}, {write, 257, 0, api.EINVAL}, {write, 4096, 0, api.EINVAL}, {write, 1, 1, api.EINVAL},
		{pwrite, 256, 0, api.OK}, {pwrite, 257, 0, api.EINVAL}, {send, 256, 0, api.OK}, {send, 257, 0, api.EINVAL}, {send, 0, 1, api.EINVAL},
		{link, 4096, 4096, api.OK}, {link, 4097, 4096, api.EINVAL}, {link, 4096, 4097, api.EINVAL}, {link, 0, 4096, api.OK}, {link, 4096, 0, api.OK},
		{symlink, 4096, 4096, api.OK}, {symlink, 4097, 0, api.EINVAL}, {symlink, 0, 4097, api.EINVAL}, {symlink, 257, 257, api.OK},
		{symlinkat, 4096, 4096, api.OK}, {symlinkat, 4097, 0, api.EINVAL}, {symlinkat, 0, 4097, api.EINVAL},
		{renameat, 257, 257, api.OK}, {renameat, 4097, 0, api.EINVAL}, {linkat, 0, 4097, api.EINVAL}, {bindat, 0, 1, api.EINVAL}, {bindat, 4096, 0, api.OK},
	} {
		r := api.Req{No: x.no, S: strings.Repeat("s", x.s), T: strings.Repeat("t", x.t)}
		if x.no == rightsLimit {
			r.L = []int{0, 0}
		}
		checked(t, r, x.want)
	}
}

// P16.2: the bounds of lists, spelt out.
func TestCheckListBounds(t *testing.T) {
	for _, x := range []struct {
		no   int
		l    []int
		want api.Errno
	}{
		{fork, []int{0}, api.EINVAL}, {read, []int{1}, api.EINVAL}, {write, []int{1, 2}, api.EINVAL}, {open, []int{1, 2}, api.EINVAL}, {recv, []int{1, 1}, api.EINVAL}, {capEnter, []int{0, 0}, api.EINVAL},
		{send, nil, api.OK}, {send, []int{}, api.OK}, {send, []int{9}, api.OK}, {send, []int{-1, 1 << 40, 0, 0}, api.OK}, {send, []int{0, 0, 0, 0, 0}, api.EINVAL}, {send, pairs(16, 1), api.EINVAL},
		{rightsLimit, nil, api.EINVAL}, {rightsLimit, []int{}, api.EINVAL}, {rightsLimit, []int{0}, api.EINVAL}, {rightsLimit, []int{0, 0}, api.OK}, {rightsLimit, []int{-1, math.MaxInt}, api.OK}, {rightsLimit, []int{0, 0, 0}, api.EINVAL}, {rightsLimit, []int{0, 0, 0, 0}, api.EINVAL},
		{ioctlsLim, nil, api.OK}, {ioctlsLim, []int{-1}, api.OK}, {ioctlsLim, pairs(33, 0), api.OK}, {ioctlsLim, pairs(64, 0), api.OK}, {ioctlsLim, pairs(65, 0), api.EINVAL},
		{poll, nil, api.OK}, {poll, []int{}, api.OK}, {poll, []int{1}, api.EINVAL}, {poll, []int{1, 0}, api.EINVAL}, {poll, []int{1, 1}, api.OK}, {poll, []int{1, 2}, api.OK}, {poll, []int{1, 3}, api.OK}, {poll, []int{1, 4}, api.EINVAL}, {poll, []int{1, -1}, api.EINVAL},
		{poll, []int{-1, 3}, api.OK}, {poll, []int{0, 3, 99, 1}, api.OK}, {poll, []int{1, 1, 1}, api.EINVAL}, {poll, []int{1, 1, 1, 0}, api.EINVAL}, {poll, []int{1, 0, 1, 1}, api.EINVAL}, {poll, []int{1, 4, 1, 4}, api.EINVAL},
		{poll, pairs(14, 3), api.OK}, {poll, pairs(15, 3), api.EINVAL}, {poll, pairs(16, 3), api.OK}, {poll, pairs(17, 3), api.EINVAL}, {poll, pairs(18, 3), api.EINVAL},
	} {
		checked(t, api.Req{No: x.no, L: x.l}, x.want)
	}
}

// P16.2: of eight pairs, each alone is looked at.
func TestCheckEachPair(t *testing.T) {
	for i := 1; i < 16; i += 2 {
		for _, n := range []int{0, 1, 2, 3, 4, -1, 257, 1<<32 + 1, math.MinInt, math.MaxInt} {
			l := pairs(16, 2)
			l[i] = n
			want := api.EINVAL
			if n == 1 || n == 2 || n == 3 {
				want = api.OK
			}
			checked(t, api.Req{No: poll, L: l}, want)
			l[i], l[i-1] = 2, n
			checked(t, api.Req{No: poll, L: l}, api.OK)
		}
	}
}

// P16.2, P16.3, P16.5: all calls, with all texts and lists beside one another.
func TestTextsAndLists(t *testing.T) {
	all, long := texts(), lists()
	for _, k := range known {
		for _, a := range all {
			for _, b := range all {
				r := good(k.no)
				r.S, r.T = a, b
				asked(t, r)
			}
			for _, l := range long {
				r := good(k.no)
				r.S, r.L = a, l
				asked(t, r)
				r.T = a
				asked(t, r)
			}
		}
	}
}

// P16.2: what stands for the letters of a call is looked at as that call's alone.
func TestOthersRequests(t *testing.T) {
	for _, k := range known {
		for _, other := range known {
			r := good(k.no)
			r.No = other.no
			asked(t, r)
		}
	}
}

// P16.3
func TestPlain(t *testing.T) {
	for _, k := range known {
		r := good(k.no)
		if p := Plain(r); !same(p, r) {
			t.Errorf("Plain(%v): %v", brief(r), brief(p))
		}
	}
	for _, r := range []api.Req{
		{No: write, A: numbers5(0, 1), S: "x"},
		{No: fork, L: []int{1}},
		{No: read, A: numbers5(3, 257)},
		{No: link, S: "a", T: "b", L: []int{1}},
		{No: rightsLimit, A: numbers5(3), L: []int{1}},
		{No: poll, A: numbers5(1), L: []int{1, 3, 1, 0}},
		{No: send, A: numbers5(1), S: "x", T: "y", L: []int{1}},
		{No: 65, A: numbers5(1, 2, 3, 4, 5), S: "x", T: "y", L: []int{1}},
		{No: 0, A: numbers5(1), S: "x"},
		{No: -1, T: "x"},
		{No: math.MinInt, L: []int{1}},
	} {
		if p := Plain(r); p.No != r.No || p.A != [5]int{} || p.S != "" || p.T != "" || len(p.L) != 0 {
			t.Errorf("Plain(%v): %v", brief(r), brief(p))
		}
	}
}

// P16.3: asked of what it answered, Plain answers the same.
func TestPlainTwice(t *testing.T) {
	for _, k := range known {
		for _, l := range lists() {
			r := good(k.no)
			r.L = l
			p := Plain(r)
			if again := Plain(p); !same(again, p) {
				t.Errorf("Plain(%v): %v", brief(p), brief(again))
			}
		}
	}
}

// P16.3: an answer's list is new memory, its spare room too; what is handed in stays as it is.
func TestPlainIsNew(t *testing.T) {
	under := []int{3, 1, 3, 2, 77, 78}
	for n := 0; n <= 4; n += 2 {
		r := api.Req{No: poll, L: under[:n]}
		p := Plain(r)
		if len(p.L) != n {
			t.Fatalf("%d numbers", len(p.L))
		}
		spare := p.L[:cap(p.L)]
		for i := range spare {
			spare[i] = -9
		}
		if q := append(p.L, -9, -9); len(q) != n+2 {
			t.Fatalf("%d numbers", len(q))
		}
		if !slices.Equal(under, []int{3, 1, 3, 2, 77, 78}) {
			t.Errorf("of %d numbers is left %v", n, under)
		}
		q := Plain(r)
		under[0] = 5
		if n > 0 && q.L[0] != 3 {
			t.Errorf("%v has changed with the list", q.L)
		}
		under[0] = 3
	}
}

// Nothing that is handed in is changed, its spare room included.
func TestNothingIsChanged(t *testing.T) {
	under := []int{3, 1, 3, 2, 77, 78}
	for _, k := range known {
		for n := range len(under) + 1 {
			r := good(k.no)
			r.L = under[:n]
			was := r
			Check(r)
			Gate(r, true)
			Gate(r, false)
			Plain(r)
			if !slices.Equal(under, []int{3, 1, 3, 2, 77, 78}) || !reflect.DeepEqual(r, was) {
				t.Fatalf("%v has changed: %v", brief(r), under)
			}
		}
	}
}

// P16.4: what is wrong with a request is told whatever else it has, and with or without capability mode.
func TestNothingHangsOnTheRest(t *testing.T) {
	rest := edges()
	for _, k := range known {
		bad := good(k.no)
		bad.A[4] = 1
		for i := range 4 {
			for _, n := range rest {
				r := bad
				r.A[i] = n
				refused(t, r)
			}
		}
		for _, l := range lists() {
			r := bad
			r.S, r.T, r.L = "x", "y", l
			refused(t, r)
		}
		long := good(k.no)
		long.S = strings.Repeat("x", 4097)
		for _, n := range rest {
			r := long
			r.A[0] = n
			refused(t, r)
		}
	}
}

// refused says that a request is refused because of its shape, whoever asks.
func refused(t *testing.T, r api.Req) {
	t.Helper()
	checked(t, r, api.EINVAL)
	if e := Gate(r, false); e != api.EINVAL {
		t.Errorf("Gate(%v, false): %d", brief(r), e)
	}
	if e := Gate(r, true); e != api.EINVAL {
		t.Errorf("Gate(%v, true): %d", brief(r), e)
	}
	if p := Plain(r); !same(p, api.Req{No: r.No}) {
		t.Errorf("Plain(%v): %v", brief(r), brief(p))
	}
}

// P16.4: asked again, behind whatever was asked between, it is the same.
func TestAskedAgain(t *testing.T) {
	for range 3 {
		for i := range known {
			asked(t, good(known[len(known)-1-i].no))
			asked(t, api.Req{No: 65})
			asked(t, api.Req{No: known[i].no, L: []int{1}})
		}
	}
}

// P16.5: each call, from directories that are AtCwd and that are not.
func TestGate(t *testing.T) {
	for _, k := range known {
		r := good(k.no)
		want := api.OK
		if k.gate == api.GateShut {
			want = api.ECAPMODE
		}
		if e := Gate(r, true); e != want {
			t.Errorf("Gate(%v, true): %d, not %d", brief(r), e, want)
		}
		if e := Gate(r, false); e != api.OK {
			t.Errorf("Gate(%v, false): %d", brief(r), e)
		}
	}
}

// P16.5: one directory.
func TestGateOfADirectory(t *testing.T) {
	for _, k := range known {
		if k.gate != api.GateBelow {
			continue
		}
		for _, x := range []struct {
			dir  int
			want api.Errno
		}{{-100, api.ECAPMODE}, {-99, api.OK}, {-101, api.OK}, {100, api.OK}, {0, api.OK}, {-1, api.OK}, {math.MinInt, api.OK}, {math.MaxInt, api.OK}, {-100 + 1<<32, api.OK}} {
			r := good(k.no)
			r.A[0] = x.dir
			if e := Gate(r, true); e != x.want {
				t.Errorf("Gate(%v, true): %d, not %d", brief(r), e, x.want)
			}
			if e := Gate(r, false); e != api.OK {
				t.Errorf("Gate(%v, false): %d", brief(r), e)
			}
		}
	}
}

// P16.5: two directories: the first, the second, both or none of them AtCwd.
func TestGateOfTwoDirectories(t *testing.T) {
	for _, no := range []int{renameat, linkat} {
		for _, x := range []struct {
			first, second int
			want          api.Errno
		}{{3, 4, api.OK}, {-100, 4, api.ECAPMODE}, {3, -100, api.ECAPMODE}, {-100, -100, api.ECAPMODE}, {0, 0, api.OK}, {-99, -101, api.OK}} {
			r := api.Req{No: no, A: numbers5(x.first, x.second), S: "a", T: "b"}
			if e := Gate(r, true); e != x.want {
				t.Errorf("Gate(%v, true): %d, not %d", brief(r), e, x.want)
			}
			if e := Gate(r, false); e != api.OK {
				t.Errorf("Gate(%v, false): %d", brief(r), e)
			}
		}
	}
}

// P16.5: a number that is -100 but stands for no directory is no AtCwd.
func TestGateOfOtherNumbers(t *testing.T) {
	for _, k := range known {
		if k.gate == api.GateShut {
			continue
		}
		for i := range len(k.shape) {
			if !strings.Contains("fxi", k.shape[i:i+1]) {
				continue
			}
			r := good(k.no)
			r.A[i] = api.AtCwd
			if e := Gate(r, true); e != api.OK {
				t.Errorf("Gate(%v, true): %d", brief(r), e)
			}
		}
	}
}

// P16.5: Check's error comes first, with and without capability mode.
func TestGateOfWhatIsRefused(t *testing.T) {
	for _, capability := range []bool{false, true} {
		for _, x := range []struct {
			r    api.Req
			want api.Errno
		}{
			{api.Req{No: open, A: numbers5(3), S: "a"}, api.EINVAL},
			{api.Req{No: open, T: "a"}, api.EINVAL},
			{api.Req{No: openat, A: numbers5(-100, 3), S: "a"}, api.EINVAL},
			{api.Req{No: renameat, A: numbers5(-100, -100, 1)}, api.EINVAL},
			{api.Req{No: link, L: []int{1}}, api.EINVAL},
			{api.Req{No: read, A: numbers5(0, 257)}, api.EINVAL},
			{api.Req{No: rightsLimit}, api.EINVAL},
			{api.Req{}, api.ENOSYS}, {api.Req{No: -1}, api.ENOSYS}, {api.Req{No: 65, A: numbers5(-100)}, api.ENOSYS},
		} {
			if e := Gate(x.r, capability); e != x.want {
				t.Errorf("Gate(%v, %v): %d, not %d", brief(x.r), capability, e, x.want)
			}
		}
	}
}
