package reqs

import (
	"math"
	"slices"
	"strings"

	"purlieu/api"
)

// The document's shapes, in the order of the calls' numbers, and how each call goes with capability mode.
var known = []struct {
	no    int
	gate  int
	shape string
}{
	{1, 0, "e"}, {2, 0, ""}, {3, 0, "fn"}, {4, 0, "fB"}, {5, 1, "gS"}, {6, 0, "f"}, {7, 1, "xu"}, {8, 1, "ST"},
	{9, 1, "S"}, {10, 1, "S"}, {11, 1, "f"}, {12, 1, "S"}, {13, 1, "S"}, {14, 0, ""}, {15, 0, ""}, {16, 1, "xs"},
	{17, 0, "f"}, {18, 0, "fx"}, {19, 0, "k"}, {20, 0, "fxx"}, {21, 0, "fxx"}, {22, 1, "YT"}, {23, 1, "S"}, {24, 1, "ST"},
	{25, 0, "fiw"}, {26, 0, "fo"}, {27, 0, "f"}, {28, 1, "uS"}, {29, 0, "f"}, {30, 0, "fno"}, {31, 0, "foB"}, {32, 0, "fc"},
	{33, 2, "dgS"}, {34, 2, "dS"}, {35, 2, "duS"}, {36, 2, "ddST"}, {37, 2, "dduST"}, {38, 2, "dYT"}, {39, 2, "dS"}, {40, 2, "duS"},
	{41, 0, "k"}, {42, 0, "k"}, {43, 1, "fS"}, {44, 2, "dfS"}, {45, 0, "fb"}, {46, 1, "fS"}, {47, 2, "dfS"}, {48, 0, "fk"},
	{49, 0, "fh"}, {50, 0, "fBL"}, {51, 0, "fnm"}, {52, 0, "uP"}, {53, 0, ""}, {54, 0, "f"}, {55, 0, "fs"}, {56, 0, "fu"},
	{57, 0, ""}, {58, 0, ""}, {59, 0, "fR"}, {60, 0, "f"}, {61, 0, "fI"}, {62, 0, "f"}, {63, 0, "fx"}, {64, 0, "f"},
}

// Some calls by their names.
const (
	exit, fork, read, write, open, closes, wait, link  = 1, 2, 3, 4, 5, 6, 7, 8
	symlink, lseek, pread, pwrite, openat              = 22, 25, 30, 31, 33
	renameat, linkat, symlinkat, bindat, listen        = 36, 37, 38, 44, 45
	send, recv, poll, capEnter, rightsLimit, ioctlsLim = 50, 51, 52, 57, 59, 61
)

// noCalls are numbers that no call has: those beside the first and the last one, those that a narrower number would take for a call, and the ends of all numbers.
func noCalls() []int {
	l := []int{0, -1, -2, -33, -64, -65, api.AtCwd, 65, 66, 67, 100, 128, 256, 1000}
	for _, bits := range []int{8, 16, 32, 63} {
		l = append(l, 1<<bits+1, 1<<bits+33, -1<<bits)
	}
	return append(l, math.MaxInt, math.MinInt, math.MaxInt32, math.MinInt32)
}

// spans are the least and the greatest number of each small letter that has such.
var spans = map[byte][2]int{
	'f': {math.MinInt, math.MaxInt}, 'd': {math.MinInt, math.MaxInt}, 'x': {math.MinInt, math.MaxInt}, 'i': {math.MinInt, math.MaxInt},
	'n': {0, 256}, 'o': {0, 1099511627776}, 'w': {0, 2}, 'h': {0, 2}, 'u': {0, 1}, 'e': {0, 255}, 's': {0, 31}, 'm': {0, 4}, 'c': {0, 64}, 'b': {0, 1048576},
}

// flagged tells whether flags are such that open takes them, from the document's words.
func flagged(n int) bool {
	bit := func(b int) bool { return n&b != 0 }
	for b := range 64 {
		if bit(1<<b) && !slices.Contains([]int{0, 1, 2, 3, 8, 9, 10, 11, 17}, b) {
			return false
		}
	}
	return !(bit(1) && bit(2)) && !(bit(0x400) && !bit(1) && !bit(2)) && !(bit(0x200) && bit(0x20000))
}

// may tells whether a number may stand for a small letter, from the document's words.
func may(c byte, n int) bool {
	switch c {
	case 'k':
		return n == 0 || n == 4
	case 'g':
		return flagged(n)
	}
	span, ok := spans[c]
	return ok && span[0] <= n && n <= span[1]
}

// wanted answers what the document asks of Check.
func wanted(r api.Req) api.Errno {
	if r.No < 1 || r.No > len(known) {
		return api.ENOSYS
	}
	shape := known[r.No-1].shape
	at, mostS, mostT := 0, 0, 0
	fewest, most := 0, 0
	for i := range len(shape) {
		switch shape[i] {
		case 'S', 'Y':
			mostS = 4096
		case 'B':
			mostS = 256
		case 'T':
			mostT = 4096
		case 'L':
			most = 4
		case 'R':
			fewest, most = 2, 2
		case 'I':
			most = 64
		case 'P':
			most = 16
			for j, n := range r.L {
				if len(r.L)%2 == 1 || j%2 == 1 && n != 1 && n != 2 && n != 3 {
					return api.EINVAL
				}
			}
		default:
			if !may(shape[i], r.A[at]) {
				return api.EINVAL
			}
			at++
		}
	}
	for ; at < len(r.A); at++ {
		if r.A[at] != 0 {
			return api.EINVAL
		}
	}
	if len(r.S) > mostS || len(r.T) > mostT || len(r.L) < fewest || len(r.L) > most {
		return api.EINVAL
	}
	return api.OK
}

// gated answers what the document asks of Gate.
func gated(r api.Req, capability bool) api.Errno {
	if e := wanted(r); e != api.OK {
		return e
	}
	k := known[r.No-1]
	refused := k.gate == 1
	for i := range len(k.shape) {
		if k.shape[i] == 'd' && r.A[i] == -100 {
			refused = true
		}
	}
	if capability && refused {
		return api.ECAPMODE
	}
	return api.OK
}

// good answers a request that can be: with numbers of their own, texts and a list where the shape has them.
func good(no int) api.Req {
	r := api.Req{No: no}
	for i, c := range []byte(known[no-1].shape) {
		switch c {
		case 'f', 'd', 'x', 'i':
			r.A[i] = 7 + i
		case 'k':
			r.A[i] = 4
		case 'S', 'Y', 'B':
			r.S = "a/b"
		case 'T':
			r.T = "c"
		case 'L', 'R', 'P', 'I':
			r.L = []int{5, 3}
		default:
			r.A[i] = 1
		}
	}
	return r
}

// edges are numbers beside the least and the greatest one of each letter, and others that a narrower number would take for these.
func edges() []int {
	l := []int{math.MinInt, math.MinInt32, -1 << 40, -257, -101, api.AtCwd, -99, -5, -4, -2, -1, math.MaxInt32, math.MaxInt32 + 1, 1 << 32, 1<<32 + 1, math.MaxInt}
	for _, n := range []int{1, 4, 6, 8, 32, 64, 100, 255, 256, 0x400, 0x600, 0x601, 0x20000, 0x20200, 1 << 20, 1 << 40} {
		l = append(l, n-1, n, n+1)
	}
	return l
}

// texts are of no bytes, of few, and of as many as a text may have, and one more.
func texts() []string {
	var l []string
	for _, n := range []int{0, 1, 255, 256, 257, 4095, 4096, 4097, 70000} {
		l = append(l, strings.Repeat("x", n))
	}
	return append(l, "\x00", strings.Repeat("\xff", 256), strings.Repeat("ä", 128), strings.Repeat("ä", 129), strings.Repeat("ä", 2048), strings.Repeat("ä", 2049))
}

// lists are as long as a list may be and one beside that, with second numbers that poll takes and with some that it does not.
func lists() [][]int {
	l := [][]int{nil, {}, {0}, {1}, {1, 0}, {1, 1}, {1, 2}, {1, 3}, {1, 4}, {1, -1}, {1, math.MinInt}, {1, math.MaxInt}, {-7, 3}, {0, 1}, {3, 1, 3}, {3, 1, 3, 1}, {3, 1, 3, 0}, {3, 0, 3, 1}, {3, 0, 3, 0}, {3, 1, 0, 1, 9, 4}, {1, 1<<32 + 1}, {1, 257}}
	for _, most := range []int{4, 16, 64} {
		for n := most - 2; n <= most+2; n++ {
			l = append(l, pairs(n, 2))
			bad := pairs(n, 3)
			bad[len(bad)-len(bad)%2-1] = 4
			l = append(l, bad)
		}
	}
	return append(l, pairs(1000, 1), pairs(1001, 1))
}

// pairs answers n numbers, each second one of which is second.
func pairs(n, second int) []int {
	l := make([]int, n)
	for i := range l {
		l[i] = 10 + i
		if i%2 == 1 {
			l[i] = second
		}
	}
	return l
}
