package rights

import (
	"slices"
	"strings"
	"testing"

	"purlieu/api"
)

// The document's names, each with the right of api that it stands for.
var known = []struct {
	name  string
	right api.Rights
}{
	{"read", api.CapRead}, {"write", api.CapWrite}, {"seek", api.CapSeek}, {"tell", api.CapTell},
	{"create", api.CapCreate}, {"fsync", api.CapFsync}, {"truncate", api.CapTruncate}, {"lookup", api.CapLookup},
	{"chdir", api.CapChdir}, {"fcntl", api.CapFcntl}, {"stat", api.CapStat}, {"readdir", api.CapReaddir},
	{"linkfrom", api.CapLinkFrom}, {"linkto", api.CapLinkTo}, {"mkdir", api.CapMkdir}, {"renamefrom", api.CapRenameFrom},
	{"renameto", api.CapRenameTo}, {"symlink", api.CapSymlink}, {"readlink", api.CapReadlink}, {"unlink", api.CapUnlink},
	{"accept", api.CapAccept}, {"bind", api.CapBind}, {"connect", api.CapConnect}, {"listen", api.CapListen},
	{"shutdown", api.CapShutdown}, {"bindat", api.CapBindat}, {"connectat", api.CapConnectat}, {"event", api.CapEvent},
	{"ioctl", api.CapIoctl}, {"pdgetpid", api.CapPdgetpid}, {"pdwait", api.CapPdwait}, {"pdkill", api.CapPdkill},
}

// samples are the edges (none, all, each right alone, all but each, the halves of the raw words) and sets from a fixed rule.
func samples() []api.Rights {
	l := []api.Rights{0, api.CapAll, 1<<20 - 1, api.CapAll &^ (1<<20 - 1), 0x55555555, 0xaaaaaaaa}
	for _, k := range known {
		l = append(l, k.right, api.CapAll&^k.right)
	}
	x := uint32(1)
	for range 60 {
		x = x*1664525 + 1013904223
		l = append(l, api.Rights(x))
	}
	return l
}

func has(a, right api.Rights) bool { return a/right%2 == 1 }

// P1.1
func TestSetsRightByRight(t *testing.T) {
	for _, a := range samples() {
		n := 0
		for _, k := range known {
			if has(a, k.right) {
				n++
			}
		}
		if Count(a) != n {
			t.Errorf("Count(%#x) = %d, want %d", a, Count(a), n)
		}
		for _, b := range samples() {
			checkPair(t, a, b)
		}
	}
}

func checkPair(t *testing.T, a, b api.Rights) {
	and, or, minus, inside := And(a, b), Or(a, b), Minus(a, b), true
	for _, k := range known {
		in, too := has(a, k.right), has(b, k.right)
		if in && !too {
			inside = false
		}
		if has(and, k.right) != (in && too) {
			t.Fatalf("And(%#x, %#x) = %#x, at %s", a, b, and, k.name)
		}
		if has(or, k.right) != (in || too) {
			t.Fatalf("Or(%#x, %#x) = %#x, at %s", a, b, or, k.name)
		}
		if has(minus, k.right) != (in && !too) {
			t.Fatalf("Minus(%#x, %#x) = %#x, at %s", a, b, minus, k.name)
		}
	}
	if Subset(a, b) != inside {
		t.Fatalf("Subset(%#x, %#x) = %t, want %t", a, b, !inside, inside)
	}
}

// P1.1
func TestSetsAtTheEdges(t *testing.T) {
	if Count(0) != 0 || Count(api.CapAll) != 32 || Count(api.CapPdkill) != 1 {
		t.Error("Count of none, all, the last")
	}
	if !Subset(0, 0) || !Subset(0, api.CapRead) || !Subset(api.CapAll, api.CapAll) {
		t.Error("Subset: none is in each, and each in itself")
	}
	if Subset(api.CapAll, api.CapAll&^api.CapPdkill) || Subset(api.CapRead, 0) || Subset(api.CapRead, api.CapWrite) {
		t.Error("Subset: one right too many")
	}
	if Minus(api.CapAll, api.CapAll) != 0 || Minus(0, api.CapAll) != 0 || Minus(api.CapAll, 0) != api.CapAll {
		t.Error("Minus of all and none")
	}
}

// P1.2
func TestNameAndBit(t *testing.T) {
	if len(known) != 32 {
		t.Fatal("32 rights are known")
	}
	for i, k := range known {
		if k.right != 1<<i {
			t.Errorf("%s is the bit %d of api", k.name, i)
		}
		if n, ok := Name(i); n != k.name || !ok {
			t.Errorf("Name(%d) = %q, %t", i, n, ok)
		}
		if r, ok := Bit(k.name); r != k.right || !ok {
			t.Errorf("Bit(%q) = %#x, %t", k.name, r, ok)
		}
	}
}

// P1.2
func TestNoNameAndNoBit(t *testing.T) {
	const most = int(^uint(0) >> 1)
	for _, i := range []int{-1, 32, 33, 57, 64, 256, 1 << 32, -1 << 32, most, -most - 1} {
		if n, ok := Name(i); n != "" || ok {
			t.Errorf("Name(%d) = %q, %t", i, n, ok)
		}
	}
	wrong := []string{"", "none", "all", "Read", "READ", "rea", "readd", "readl", " read", "read ", "read\x00", "read,", "read,write", "kill", "0", "1", "CapRead", "\xff"}
	for _, s := range wrong {
		if r, ok := Bit(s); r != 0 || ok {
			t.Errorf("Bit(%q) = %#x, %t", s, r, ok)
		}
	}
}

// P1.3
func TestShow(t *testing.T) {
	for _, c := range []struct {
		a    api.Rights
		text string
	}{
		{0, "none"},
		{api.CapAll, "all"},
		{api.CapRead | api.CapWrite, "read,write"},
		{api.CapRead, "read"},
		{api.CapPdkill, "pdkill"},
		{api.CapPdkill | api.CapRead, "read,pdkill"},
		{api.CapUnlink | api.CapAccept, "unlink,accept"},
		{api.CapConnect | api.CapConnectat | api.CapBind | api.CapBindat, "bind,connect,bindat,connectat"},
	} {
		if s := Show(c.a); s != c.text {
			t.Errorf("Show(%#x) = %q, want %q", c.a, s, c.text)
		}
		if a, e := Parse(c.text); a != c.a || e != api.OK {
			t.Errorf("Parse(%q) = %#x, %d", c.text, a, e)
		}
	}
}

// P1.3
func TestShowTellsTheNamesInOrder(t *testing.T) {
	for _, a := range samples() {
		if a == 0 || a == api.CapAll {
			continue
		}
		var l []string
		for _, k := range known {
			if has(a, k.right) {
				l = append(l, k.name)
			}
		}
		if s := Show(a); s != strings.Join(l, ",") {
			t.Errorf("Show(%#x) = %q", a, s)
		}
	}
}

// P1.3
func TestParseRefuses(t *testing.T) {
	var l []string
	for _, k := range known {
		l = append(l, k.name)
	}
	wrong := []string{
		"", ",", ",,", " ", "read,", ",read", "read,,write", "read, write", "read write", "read;write", "read,write\n",
		"write,read", "read,read", "pdkill,pdkill", "pdkill,read", "read,write,seek,write", "read,seek,write",
		"Read", "READ", "None", "All", "ALL", "none,all", "none,read", "read,none", "all,read", "read,all", "none,", "all,", " none", "all ",
		"cap_read", "x", "read,x", "x,read", "0", "-1", "1", "\x00", "read\x00", "\xff\xfe",
		strings.Join(l, ","), // all of them have another text
		strings.Repeat("read,", 1000) + "read",
		strings.Repeat(",", 1000),
	}
	for _, s := range wrong {
		if a, e := Parse(s); a != 0 || e != api.EINVAL {
			t.Errorf("Parse(%.40q) = %#x, %d", s, a, e)
		}
	}
	most := strings.Join(l[1:], ",")
	if a, e := Parse(most); a != api.CapAll&^api.CapRead || e != api.OK {
		t.Errorf("Parse of all but read = %#x, %d", a, e)
	}
}

// P1.4
func TestPut(t *testing.T) {
	for _, c := range []struct {
		a api.Rights
		w [2]uint64
	}{
		{0, [2]uint64{1 << 57, 1 << 58}},
		{api.CapAll, [2]uint64{1<<57 | 0xfffff, 1<<58 | 0xfff}},
		{api.CapRead, [2]uint64{1<<57 | 1, 1 << 58}},
		{api.CapUnlink, [2]uint64{1<<57 | 1<<19, 1 << 58}},
		{api.CapAccept, [2]uint64{1 << 57, 1<<58 | 1}},
		{api.CapPdkill, [2]uint64{1 << 57, 1<<58 | 1<<11}},
	} {
		if w := Put(c.a); w != c.w {
			t.Errorf("Put(%#x) = %#x, want %#x", c.a, w, c.w)
		}
		if a, e := Take(c.w[:]); a != c.a || e != api.OK {
			t.Errorf("Take(%#x) = %#x, %d", c.w, a, e)
		}
	}
}

// P1.4
func TestPutRightByRight(t *testing.T) {
	for _, a := range samples() {
		w := [2]uint64{1 << 57, 1 << 58}
		for i, k := range known {
			if !has(a, k.right) {
				continue
			}
			if i < 20 {
				w[0] += 1 << i
			} else {
				w[1] += 1 << (i - 20)
			}
		}
		if Put(a) != w {
			t.Errorf("Put(%#x) = %#x, want %#x", a, Put(a), w)
		}
	}
}

// P1.4: with one bit turned, words are those of other rights, if the bit is a right's, and none otherwise.
func TestTakeOfWordsWithOneBitTurned(t *testing.T) {
	for _, a := range samples() {
		for word := range 2 {
			for bit := range 64 {
				w := Put(a)
				w[word] ^= 1 << bit
				want, wantErr := api.Rights(0), api.EINVAL
				if bit < []int{20, 12}[word] {
					want, wantErr = a^1<<(20*word+bit), api.OK
				}
				if b, e := Take(w[:]); b != want || e != wantErr {
					t.Fatalf("Take(%#x) = %#x, %d, want %#x, %d", w, b, e, want, wantErr)
				}
			}
		}
	}
}

// P1.4
func TestTakeRefuses(t *testing.T) {
	for _, a := range samples() {
		w := Put(a)
		for _, l := range [][]uint64{
			nil, {}, {w[0]}, {w[1]}, {w[1], w[0]}, {w[0], w[0]}, {w[1], w[1]},
			{w[0], w[1], 0}, {0, w[0], w[1]}, {w[0], w[1], w[0], w[1]},
			{0, 0}, {^uint64(0), ^uint64(0)}, {uint64(a), 0},
			{w[0] | 1<<20, w[1]}, {w[0], w[1] | 1<<12}, {w[0] | 1<<58, w[1] | 1<<57},
		} {
			if b, e := Take(l); b != 0 || e != api.EINVAL {
				t.Errorf("Take(%#x) = %#x, %d", l, b, e)
			}
		}
	}
}

func TestTakeLeavesItsArgument(t *testing.T) {
	room := []uint64{1<<57 | 3, 1<<58 | 5, 7, 9}
	for n := range len(room) {
		Take(room[:n])
	}
	if !slices.Equal(room, []uint64{1<<57 | 3, 1<<58 | 5, 7, 9}) {
		t.Errorf("%#x", room)
	}
}

// P1.5
func TestThereAndBack(t *testing.T) {
	for _, a := range samples() {
		if b, e := Parse(Show(a)); b != a || e != api.OK {
			t.Errorf("Parse(Show(%#x)) = %#x, %d", a, b, e)
		}
		w := Put(a)
		if b, e := Take(w[:]); b != a || e != api.OK {
			t.Errorf("Take(Put(%#x)) = %#x, %d", a, b, e)
		}
	}
}

// few are all sets of five rights, the first and the last and the edges of the raw words among them.
func few() []api.Rights {
	l := []api.Rights{0}
	for _, r := range []api.Rights{api.CapRead, api.CapLookup, api.CapUnlink, api.CapAccept, api.CapPdkill} {
		for _, a := range l {
			l = append(l, Or(a, r))
		}
	}
	return l
}

// P1.6
func TestLattice(t *testing.T) {
	if len(few()) != 32 {
		t.Fatal("all sets of five")
	}
	for _, l := range [][]api.Rights{few(), samples()} {
		for _, a := range l {
			for _, b := range l {
				checkMeet(t, a, b, l)
			}
		}
	}
}

func checkMeet(t *testing.T, a, b api.Rights, l []api.Rights) {
	both := And(a, b)
	if !Subset(both, a) || !Subset(both, b) {
		t.Fatalf("And(%#x, %#x) = %#x is no subset of each", a, b, both)
	}
	for _, c := range l {
		if (Subset(c, a) && Subset(c, b)) != Subset(c, both) {
			t.Fatalf("%#x and what is in both %#x and %#x", c, a, b)
		}
	}
}
