package calls

import (
	"math"
	"strings"
	"testing"

	"purlieu/api"
	"purlieu/rights"
)

// The document's calls, in the order of their numbers, each with the package that does it.
var known = []struct {
	no            int
	name          string
	gate          int
	shape         string
	first, second api.Rights
	group         string
}{
	{1, "exit", api.GateOpen, "e", 0, 0, "proccalls"},
	{2, "fork", api.GateOpen, "", 0, 0, "proccalls"},
	{3, "read", api.GateOpen, "fn", api.CapRead, 0, "fscalls"},
	{4, "write", api.GateOpen, "fB", api.CapWrite, 0, "fscalls"},
	{5, "open", api.GateShut, "gS", 0, 0, "dircalls"},
	{6, "close", api.GateOpen, "f", 0, 0, "fscalls"},
	{7, "wait", api.GateShut, "xu", 0, 0, "proccalls"},
	{8, "link", api.GateShut, "ST", 0, 0, "dircalls"},
	{9, "unlink", api.GateShut, "S", 0, 0, "dircalls"},
	{10, "chdir", api.GateShut, "S", 0, 0, "dircalls"},
	{11, "fchdir", api.GateShut, "f", api.CapChdir, 0, "dircalls"},
	{12, "mkdir", api.GateShut, "S", 0, 0, "dircalls"},
	{13, "rmdir", api.GateShut, "S", 0, 0, "dircalls"},
	{14, "getpid", api.GateOpen, "", 0, 0, "proccalls"},
	{15, "getppid", api.GateOpen, "", 0, 0, "proccalls"},
	{16, "kill", api.GateShut, "xs", 0, 0, "proccalls"},
	{17, "dup", api.GateOpen, "f", 0, 0, "fscalls"},
	{18, "dup2", api.GateOpen, "fx", 0, 0, "fscalls"},
	{19, "pipe", api.GateOpen, "k", 0, 0, "ipccalls"},
	{20, "fcntl", api.GateOpen, "fxx", 0, 0, "fscalls"},
	{21, "ioctl", api.GateOpen, "fxx", api.CapIoctl, 0, "fscalls"},
	{22, "symlink", api.GateShut, "YT", 0, 0, "dircalls"},
	{23, "readlink", api.GateShut, "S", 0, 0, "dircalls"},
	{24, "rename", api.GateShut, "ST", 0, 0, "dircalls"},
	{25, "lseek", api.GateOpen, "fiw", 0, 0, "fscalls"},
	{26, "ftruncate", api.GateOpen, "fo", api.CapTruncate, 0, "fscalls"},
	{27, "fstat", api.GateOpen, "f", api.CapStat, 0, "fscalls"},
	{28, "stat", api.GateShut, "uS", 0, 0, "dircalls"},
	{29, "fsync", api.GateOpen, "f", api.CapFsync, 0, "fscalls"},
	{30, "pread", api.GateOpen, "fno", api.CapRead | api.CapSeek, 0, "fscalls"},
	{31, "pwrite", api.GateOpen, "foB", api.CapWrite | api.CapSeek, 0, "fscalls"},
	{32, "getdents", api.GateOpen, "fc", api.CapReaddir, 0, "fscalls"},
	{33, "openat", api.GateBelow, "dgS", 0, 0, "dircalls"},
	{34, "mkdirat", api.GateBelow, "dS", api.CapLookup | api.CapMkdir, 0, "dircalls"},
	{35, "unlinkat", api.GateBelow, "duS", api.CapLookup | api.CapUnlink, 0, "dircalls"},
	{36, "renameat", api.GateBelow, "ddST", api.CapLookup | api.CapRenameFrom, api.CapLookup | api.CapRenameTo, "dircalls"},
	{37, "linkat", api.GateBelow, "dduST", api.CapLookup | api.CapLinkFrom, api.CapLookup | api.CapLinkTo, "dircalls"},
	{38, "symlinkat", api.GateBelow, "dYT", api.CapLookup | api.CapSymlink, 0, "dircalls"},
	{39, "readlinkat", api.GateBelow, "dS", api.CapLookup | api.CapReadlink, 0, "dircalls"},
	{40, "fstatat", api.GateBelow, "duS", api.CapLookup | api.CapStat, 0, "dircalls"},
	{41, "socket", api.GateOpen, "k", 0, 0, "ipccalls"},
	{42, "socketpair", api.GateOpen, "k", 0, 0, "ipccalls"},
	{43, "bind", api.GateShut, "fS", api.CapBind, 0, "ipccalls"},
	{44, "bindat", api.GateBelow, "dfS", api.CapLookup | api.CapBindat, api.CapBind, "ipccalls"},
	{45, "listen", api.GateOpen, "fb", api.CapListen, 0, "ipccalls"},
	{46, "connect", api.GateShut, "fS", api.CapConnect, 0, "ipccalls"},
	{47, "connectat", api.GateBelow, "dfS", api.CapLookup | api.CapConnectat, api.CapConnect, "ipccalls"},
	{48, "accept", api.GateOpen, "fk", api.CapAccept, 0, "ipccalls"},
	{49, "shutdown", api.GateOpen, "fh", api.CapShutdown, 0, "ipccalls"},
	{50, "send", api.GateOpen, "fBL", api.CapWrite, 0, "ipccalls"},
	{51, "recv", api.GateOpen, "fnm", api.CapRead, 0, "ipccalls"},
	{52, "poll", api.GateOpen, "uP", 0, 0, "polls"},
	{53, "pdfork", api.GateOpen, "", 0, 0, "proccalls"},
	{54, "pdgetpid", api.GateOpen, "f", api.CapPdgetpid, 0, "proccalls"},
	{55, "pdkill", api.GateOpen, "fs", api.CapPdkill, 0, "proccalls"},
	{56, "pdwait", api.GateOpen, "fu", api.CapPdwait, 0, "proccalls"},
	{57, "cap_enter", api.GateOpen, "", 0, 0, "capcalls"},
	{58, "cap_getmode", api.GateOpen, "", 0, 0, "capcalls"},
	{59, "cap_rights_limit", api.GateOpen, "fR", 0, 0, "capcalls"},
	{60, "cap_rights_get", api.GateOpen, "f", 0, 0, "capcalls"},
	{61, "cap_ioctls_limit", api.GateOpen, "fI", 0, 0, "capcalls"},
	{62, "cap_ioctls_get", api.GateOpen, "f", 0, 0, "capcalls"},
	{63, "cap_fcntls_limit", api.GateOpen, "fx", 0, 0, "capcalls"},
	{64, "cap_fcntls_get", api.GateOpen, "f", 0, 0, "capcalls"},
}

// strange are numbers that no call has: those beside the first and the last one, those that a narrower number would take for a call, and the ends of all numbers.
func strange() []int {
	l := []int{0, -1, -2, -33, -63, -64, -65, api.AtCwd, 65, 66, 99, 100, 128, 256, 333, 1000}
	for _, bits := range []int{8, 16, 32, 63} {
		l = append(l, 1<<bits+1, 1<<bits+33, -1<<bits, 33-1<<bits)
	}
	return append(l, math.MaxInt, math.MinInt, math.MaxInt32, math.MinInt32)
}

// P15.1
func TestGet(t *testing.T) {
	if len(known) != api.Calls {
		t.Fatalf("%d calls are known", len(known))
	}
	for i, k := range known {
		if k.no != i+1 {
			t.Fatalf("%s lies at %d", k.name, i)
		}
		want := api.Call{Name: k.name, Shape: k.shape, Gate: k.gate, Need: [2]api.Rights{k.first, k.second}}
		if c, ok := Get(k.no); c != want || !ok {
			t.Errorf("Get(%d): %v %v, not %v", k.no, c, ok, want)
		}
	}
}

// P15.1
func TestGetOfNoCall(t *testing.T) {
	for _, no := range strange() {
		if c, ok := Get(no); c != (api.Call{}) || ok {
			t.Errorf("Get(%d): %v %v", no, c, ok)
		}
	}
}

// P15.1
func TestFind(t *testing.T) {
	for _, k := range known {
		if no, ok := Find(k.name); no != k.no || !ok {
			t.Errorf("Find(%q): %d %v, not %d", k.name, no, ok, k.no)
		}
		if c, _ := Get(k.no); c.Name != k.name {
			t.Errorf("Get(%d) is called %q", k.no, c.Name)
		}
	}
}

// isName tells whether a call has that name.
func isName(s string) bool {
	for _, k := range known {
		if k.name == s {
			return true
		}
	}
	return false
}

// noName says that no call has that name, unless the document gives it to one.
func noName(t *testing.T, s string) {
	t.Helper()
	if isName(s) {
		return
	}
	if no, ok := Find(s); no != 0 || ok {
		t.Errorf("Find(%q): %d %v", s, no, ok)
	}
}

// P15.1
func TestFindOfNoName(t *testing.T) {
	for _, s := range []string{
		"", ".", ",", " ", "\n", "\x00", "_", "-", "0", "1", "64", "65", "-1", "01", "\xff", "é",
		"cap", "cap_", "cap_rights", "_limit", "at", "pd", "creat", "Read", "READ", "reads", "execve",
		"dircalls", "fscalls", "ipccalls", "proccalls", "capcalls", "polls", "kernel", "calls",
		"read,write", "read,seek", "lookup,mkdir", "none", "all",
		strings.Repeat("read", 1000), strings.Repeat(" ", 1000),
	} {
		noName(t, s)
	}
}

// P15.1: a part of a name, and a name with more beside it, are names just if the document has them.
func TestFindOfWhatLooksLikeAName(t *testing.T) {
	around := []string{" ", "\n", "\t", "\r", "\x00", ".", "_", "s", "1", "at"}
	for _, k := range known {
		for from := range len(k.name) {
			for to := from; to <= len(k.name); to++ {
				noName(t, k.name[from:to])
			}
		}
		for _, x := range around {
			noName(t, x+k.name)
			noName(t, k.name+x)
			noName(t, k.name[:1]+x+k.name[1:])
		}
		noName(t, strings.ToUpper(k.name))
		noName(t, k.name+k.name)
	}
}

// P15.1: what else stands in a call's row is no name.
func TestFindOfOtherParts(t *testing.T) {
	for i := range 32 {
		name, _ := rights.Name(i)
		noName(t, name)
	}
	for i, k := range known {
		noName(t, k.shape)
		noName(t, k.group)
		noName(t, rights.Show(k.first))
		noName(t, rights.Show(k.second))
		noName(t, k.name+" "+k.shape)
		noName(t, k.name+" "+k.group)
		noName(t, k.name+" 0")
		noName(t, k.name+" 0 "+k.shape)
		next := known[(i+1)%len(known)]
		noName(t, k.name+" "+next.name)
		noName(t, k.name+"\n"+next.name)
	}
}

// dirs are numbers of directories' descriptors, and those that lie beside AtCwd.
var dirs = []int{api.AtCwd, api.AtCwd - 1, api.AtCwd + 1, -api.AtCwd, 0, 1, 2, 3, 33, 63, 64, -1, math.MaxInt, math.MinInt, math.MaxInt32, math.MinInt32, api.AtCwd + 1<<32, api.AtCwd + 256}

// gated says what Gate tells.
func gated(t *testing.T, no, dir int, capability bool, want api.Errno) {
	t.Helper()
	if e := Gate(no, dir, capability); e != want {
		t.Errorf("Gate(%d, %d, %v): %d, not %d", no, dir, capability, e, want)
	}
}

// P15.2
func TestGate(t *testing.T) {
	for _, k := range known {
		for _, dir := range dirs {
			want := api.OK
			switch k.gate {
			case api.GateShut:
				want = api.ECAPMODE
			case api.GateBelow:
				if dir == -100 {
					want = api.ECAPMODE
				}
			}
			gated(t, k.no, dir, true, want)
			gated(t, k.no, dir, false, api.OK)
		}
	}
}

// P15.2
func TestGateOfEachWay(t *testing.T) {
	const read, open, openat, bindat = 3, 5, 33, 44
	gated(t, read, api.AtCwd, true, api.OK)
	gated(t, read, 0, true, api.OK)
	gated(t, open, api.AtCwd, true, api.ECAPMODE)
	gated(t, open, 0, true, api.ECAPMODE)
	gated(t, open, api.AtCwd, false, api.OK)
	gated(t, openat, -100, true, api.ECAPMODE)
	gated(t, openat, -100, false, api.OK)
	gated(t, openat, -99, true, api.OK)
	gated(t, openat, -101, true, api.OK)
	gated(t, openat, 100, true, api.OK)
	gated(t, bindat, -100, true, api.ECAPMODE)
	gated(t, bindat, 3, true, api.OK)
}

// P15.2
func TestGateOfNoCall(t *testing.T) {
	for _, no := range strange() {
		for _, dir := range dirs {
			gated(t, no, dir, true, api.OK)
			gated(t, no, dir, false, api.OK)
		}
	}
}

// flagged says what Flags tells.
func flagged(t *testing.T, flags int, need api.Rights, want api.Errno) {
	t.Helper()
	if a, e := Flags(flags); a != need || e != want {
		t.Errorf("Flags(%#x): %s %d, not %s %d", flags, rights.Show(a), e, rights.Show(need), want)
	}
}

// P15.3
func TestFlags(t *testing.T) {
	const reads, writes = api.CapLookup | api.CapRead, api.CapLookup | api.CapWrite
	for _, c := range []struct {
		flags int
		need  api.Rights
	}{
		{0, reads},
		{api.OWrite, writes},
		{api.OBoth, reads | api.CapWrite},
		{api.ONonblock, reads},
		{api.OAppend, reads},
		{api.ONofollow, reads},
		{api.OCreat, reads | api.CapCreate},
		{api.OExcl, reads},
		{api.ODirectory, reads},
		{api.OWrite | api.OTrunc, writes | api.CapTruncate},
		{api.OBoth | api.OTrunc, reads | api.CapWrite | api.CapTruncate},
		{api.OWrite | api.OAppend, writes},
		{api.OWrite | api.OCreat, writes | api.CapCreate},
		{api.OBoth | api.OCreat | api.OTrunc, reads | api.CapWrite | api.CapCreate | api.CapTruncate},
		{api.OCreat | api.OExcl, reads | api.CapCreate},
		{api.ODirectory | api.OExcl, reads},
		{api.ODirectory | api.OWrite, writes},
		{api.ODirectory | api.OBoth | api.OTrunc, reads | api.CapWrite | api.CapTruncate},
		{api.OWrite | api.ONonblock | api.OAppend | api.ONofollow | api.OCreat | api.OTrunc | api.OExcl, writes | api.CapCreate | api.CapTruncate},
		{api.OBoth | api.ONonblock | api.OAppend | api.ONofollow | api.OTrunc | api.OExcl | api.ODirectory, reads | api.CapWrite | api.CapTruncate},
	} {
		flagged(t, c.flags, c.need, api.OK)
	}
}

// P15.3
func TestFlagsRefused(t *testing.T) {
	for _, flags := range []int{
		api.OWrite | api.OBoth,
		api.OWrite | api.OBoth | api.OAppend,
		api.OWrite | api.OBoth | api.OTrunc,
		api.OWrite | api.OBoth | api.OCreat,
		api.OTrunc,
		api.OTrunc | api.OCreat,
		api.OTrunc | api.OAppend | api.ONonblock,
		api.OTrunc | api.ODirectory,
		api.OCreat | api.ODirectory,
		api.OCreat | api.ODirectory | api.OWrite,
		api.OCreat | api.ODirectory | api.OExcl,
		api.OStays | api.ONofollow | api.OCreat | api.OTrunc | api.OExcl | api.ODirectory,
		-1, -2, -4, -100, ^api.OWrite, math.MinInt, math.MaxInt, math.MinInt32, math.MaxInt32,
	} {
		flagged(t, flags, 0, api.EINVAL)
	}
}

// fine are flags of each way of access.
var fine = []int{0, api.OWrite, api.OBoth, api.OBoth | api.OTrunc | api.OCreat}

// P15.3: each bit alone, and each with others that are fine without it.
func TestFlagsBitByBit(t *testing.T) {
	for bit := range 64 {
		flag := 1 << bit
		switch flag {
		case 0x1, 0x2, 0x4, 0x8, 0x100, 0x200, 0x800, 0x20000:
			if _, e := Flags(flag); e != api.OK {
				t.Errorf("Flags(%#x): %d", flag, e)
			}
		case 0x400:
			flagged(t, flag, 0, api.EINVAL)
		default:
			for _, more := range fine {
				flagged(t, flag|more, 0, api.EINVAL)
			}
		}
	}
}

// onlyNamed tells whether flags have no bit but those named; spelt out, so that api's sums play no part in it.
func onlyNamed(flags int) bool {
	for bit := range 64 {
		switch bit {
		case 0, 1, 2, 3, 8, 9, 10, 11, 17:
		default:
			if flags>>bit&1 == 1 {
				return false
			}
		}
	}
	return true
}

// P15.3: all flags up to one bit beyond the greatest, held against the document's words one by one.
func TestFlagsAll(t *testing.T) {
	for flags := range 1 << 19 {
		write, both := flags&1 > 0, flags&2 > 0
		creat, trunc, dir := flags&0x200 > 0, flags&0x400 > 0, flags&0x20000 > 0
		need, want := api.CapLookup, api.OK
		if !write {
			need += api.CapRead
		}
		if write || both {
			need += api.CapWrite
		}
		if creat {
			need += api.CapCreate
		}
		if trunc {
			need += api.CapTruncate
		}
		if !onlyNamed(flags) || write && both || trunc && !write && !both || creat && dir {
			need, want = 0, api.EINVAL
		}
		flagged(t, flags, need, want)
	}
}

// P15.4
func TestGroup(t *testing.T) {
	for _, k := range known {
		if g := Group(k.no); g != k.group {
			t.Errorf("Group(%d): %q, not %q", k.no, g, k.group)
		}
	}
}

// P15.4: from the chapter's list of numbers, each of which is in one group.
func TestGroupByNumbers(t *testing.T) {
	of := map[int]string{}
	put := func(group string, from, to int) {
		for no := from; no <= to; no++ {
			if of[no] != "" {
				t.Fatalf("%d is in %s, too", no, of[no])
			}
			of[no] = group
		}
	}
	for group, spans := range map[string][][2]int{
		"dircalls":  {{5, 5}, {8, 13}, {22, 24}, {28, 28}, {33, 40}},
		"fscalls":   {{3, 4}, {6, 6}, {17, 18}, {20, 21}, {25, 27}, {29, 32}},
		"ipccalls":  {{19, 19}, {41, 51}},
		"proccalls": {{1, 2}, {7, 7}, {14, 16}, {53, 56}},
		"capcalls":  {{57, 64}},
		"polls":     {{52, 52}},
	} {
		for _, s := range spans {
			put(group, s[0], s[1])
		}
	}
	if len(of) != api.Calls {
		t.Fatalf("%d calls have a group", len(of))
	}
	for no := -70; no <= 140; no++ {
		if g := Group(no); g != of[no] {
			t.Errorf("Group(%d): %q, not %q", no, g, of[no])
		}
	}
}

// P15.4
func TestGroupOfNoCall(t *testing.T) {
	for _, no := range strange() {
		if g := Group(no); g != "" {
			t.Errorf("Group(%d): %q", no, g)
		}
	}
}

// P15.5
func TestNothingGlobal(t *testing.T) {
	always := 0
	for no := 1; no <= api.Calls; no++ {
		c, _ := Get(no)
		if c.Gate != api.GateOpen {
			continue
		}
		always++
		if strings.ContainsAny(c.Shape, "STY") {
			t.Errorf("%s goes always, and has a path: %s", c.Name, c.Shape)
		}
	}
	if always != 39 {
		t.Errorf("%d calls go always", always)
	}
}

// P15.5: whatever has a path is refused in capability mode, unless it is gone from a descriptor.
func TestPathsAreRefused(t *testing.T) {
	for no := 1; no <= api.Calls; no++ {
		c, _ := Get(no)
		if !strings.ContainsAny(c.Shape, "STY") {
			continue
		}
		gated(t, no, api.AtCwd, true, api.ECAPMODE)
		if !strings.Contains(c.Shape, "d") {
			gated(t, no, 3, true, api.ECAPMODE)
		}
	}
}

// What a call answers hangs on its arguments alone: asked again, behind whatever was asked between, it is the same.
func TestAskedAgain(t *testing.T) {
	for range 3 {
		for i := range known {
			k := known[len(known)-1-i]
			c, ok := Get(k.no)
			c.Need[0], c.Name = api.CapAll, ""
			again, too := Get(k.no)
			if again.Name != k.name || again.Need != [2]api.Rights{k.first, k.second} || !ok || !too {
				t.Errorf("Get(%d), asked again: %v", k.no, again)
			}
			Find("none")
			Get(65)
			if no, _ := Find(k.name); no != k.no {
				t.Errorf("Find(%q), asked again: %d", k.name, no)
			}
		}
	}
}
