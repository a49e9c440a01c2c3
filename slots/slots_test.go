package slots

import (
	"fmt"
	"math"
	"slices"
	"testing"

	"purlieu/api"
)

// allFcntls are the bits of fcntl, written out.
const allFcntls = 8 + 16 + 32 + 64

// wrongFcntls have a bit beyond those.
var wrongFcntls = []int{1, 2, 4, 128, 256, 7, 9, 121, 127, 248, 255, -1, -8, 1 << 31, 1 << 62, 8 | 1<<40, math.MaxInt, math.MinInt}

// wrongLists are no whitelists.
var wrongLists = []api.List{
	{All: true, L: []int{0}}, {All: true, L: []int{1, 2}}, {L: []int{-1}}, {L: []int{-1, 0}}, {L: []int{2, 1}}, {L: []int{1, 1}},
	{L: []int{0, 0}}, {L: []int{1, 2, 2}}, {L: []int{1, 3, 2}}, {L: []int{math.MinInt}}, {L: rising(33)}, {L: rising(40)},
}

// rising answers n commands, from 0 on.
func rising(n int) []int {
	l := make([]int, n)
	for i := range l {
		l[i] = i
	}
	return l
}

// full is what the document says of Full, written out.
func full(file int) api.Slot {
	return api.Slot{File: file, Rights: 1<<32 - 1, Ioctls: api.List{All: true}, Fcntls: allFcntls}
}

// slot answers a descriptor with just these rights, commands of ioctl, and bits of fcntl.
func slot(file int, r api.Rights, fcntls int, cmds ...int) api.Slot {
	return api.Slot{File: file, Rights: r, Ioctls: api.List{L: cmds}, Fcntls: fcntls}
}

// alike tells whether two descriptors are the same; nil and empty lists are.
func alike(a, b api.Slot) bool {
	return a.File == b.File && a.Rights == b.Rights && a.Fcntls == b.Fcntls && a.Ioctls.All == b.Ioctls.All && slices.Equal(a.Ioctls.L, b.Ioctls.L)
}

// empty tells whether s is none.
func empty(s api.Slot) bool { return alike(s, api.Slot{}) }

// heldAll is what a table is to have, by the numbers.
type heldAll map[int]api.Slot

// made answers a table that has these descriptors.
func made(t *testing.T, most int, all heldAll) *Table {
	t.Helper()
	x := New(most)
	if x == nil {
		t.Fatalf("New(%d): nil", most)
	}
	for fd, s := range all {
		set(t, x, fd, s, api.Slot{}, false)
	}
	return x
}

// set lays s at a number, where that was.
func set(t *testing.T, x *Table, fd int, s, want api.Slot, there bool) {
	t.Helper()
	if was, ok, e := x.Set(fd, s); !alike(was, want) || ok != there || e != api.OK {
		t.Fatalf("Set(%d, %v): %v %v %d, not %v %v", fd, s, was, ok, e, want, there)
	}
}

// put puts s, which must come to lie at that number.
func put(t *testing.T, x *Table, from int, s api.Slot, want int) {
	t.Helper()
	if fd, e := x.Put(from, s); fd != want || e != api.OK {
		t.Fatalf("Put(%d, %v): %d %d, not %d", from, s, fd, e, want)
	}
}

// take takes what must be that.
func take(t *testing.T, x *Table, fd int, want api.Slot) {
	t.Helper()
	if s, e := x.Take(fd); !alike(s, want) || e != api.OK {
		t.Fatalf("Take(%d): %v %d, not %v", fd, s, e, want)
	}
}

// tells says which error a call told.
func tells(t *testing.T, what string, got, want api.Errno) {
	t.Helper()
	if got != want {
		t.Fatalf("%s: %d, not %d", what, got, want)
	}
}

// is says what x has: just these descriptors, and room for as many more as most leaves.
func is(t *testing.T, x *Table, what string, most int, want heldAll) {
	t.Helper()
	var all []int
	for fd := -1; fd <= most; fd++ {
		s, there := want[fd]
		got, e := x.Get(fd, 0)
		if there {
			all = append(all, fd)
			if !alike(got, s) || e != api.OK {
				t.Errorf("%s: Get(%d): %v %d, not %v", what, fd, got, e, s)
			}
		} else if !empty(got) || e != api.EBADF {
			t.Errorf("%s: Get(%d): %v %d", what, fd, got, e)
		}
	}
	if len(all) != len(want) {
		t.Fatalf("%s: wants %v, of %d", what, want, most)
	}
	if got := x.All(); !slices.Equal(got, all) {
		t.Errorf("%s: All %v, not %v", what, got, all)
	}
	if got := x.Room(); got != most-len(all) {
		t.Errorf("%s: Room %d, not %d", what, got, most-len(all))
	}
}

// P13.1: the limits and bits are those of the document.
func TestLimits(t *testing.T) {
	if api.MaxFds != 64 || api.FcntlAll != allFcntls || api.MaxCmds != 32 || api.CapAll != 1<<32-1 {
		t.Error(api.MaxFds, api.FcntlAll, api.MaxCmds, api.CapAll)
	}
}

// P13.1: tables of all sizes have no descriptors, and numbers from 0 to one below their size.
func TestNew(t *testing.T) {
	for most := 1; most <= 64; most++ {
		x := New(most)
		if x == nil {
			t.Fatalf("New(%d): nil", most)
		}
		is(t, x, "new", most, nil)
		all := heldAll{}
		for fd := range most {
			put(t, x, 0, full(fd+1), fd)
			all[fd] = full(fd + 1)
		}
		is(t, x, "full", most, all)
		if fd, e := x.Put(0, full(1)); fd != 0 || e != api.EMFILE {
			t.Errorf("New(%d): one beyond: %d %d", most, fd, e)
		}
		for _, fd := range []int{-1, most} {
			if was, ok, e := x.Set(fd, full(1)); !empty(was) || ok || e != api.EBADF {
				t.Errorf("New(%d): Set(%d): %v %v %d", most, fd, was, ok, e)
			}
		}
		is(t, x, "still full", most, all)
	}
}

// P13.1: no table has a size beyond those.
func TestNewWrong(t *testing.T) {
	for _, most := range []int{0, -1, -2, -64, 65, 66, 128, 256, math.MaxInt32, math.MinInt32, math.MaxInt, math.MinInt} {
		if New(most) != nil {
			t.Errorf("New(%d): not nil", most)
		}
	}
}

// P13.1: Full tells all rights and all commands, of whatever number, and each time anew.
func TestFull(t *testing.T) {
	for _, file := range []int{1, 2, 7, 256, math.MaxInt, 0, -1, math.MinInt} {
		a := Full(file)
		if !alike(a, full(file)) {
			t.Errorf("Full(%d): %v", file, a)
		}
		_ = append(a.Ioctls.L, 5)
		if b := Full(file); !alike(b, full(file)) {
			t.Errorf("Full(%d) again: %v", file, b)
		}
	}
}

// canBe are descriptors that can be: with any rights, beside any whitelists.
func canBe() []api.Slot {
	all := []api.Slot{
		full(1), full(2), full(math.MaxInt), slot(1, 0, 0), slot(1, 0, allFcntls, 3), slot(9, api.CapAll, 0),
		{File: 3, Ioctls: api.List{All: true}}, {File: 3, Ioctls: api.List{All: true, L: []int{}}}, {File: 3, Ioctls: api.List{L: []int{}}},
		slot(4, api.CapIoctl, 0, 0), slot(4, api.CapIoctl, 0, rising(31)...), slot(4, api.CapRead, 0, rising(32)...),
		slot(4, api.CapPdkill, 0, 0, 7, math.MaxInt),
	}
	for fcntls := 0; fcntls <= allFcntls; fcntls += 8 {
		all = append(all, slot(5, api.CapFcntl, fcntls))
	}
	for i := range 32 {
		all = append(all, slot(6, 1<<i, 0))
	}
	return all
}

// canNotBe are descriptors that can't be, for one reason each, or for all.
func canNotBe() []api.Slot {
	var all []api.Slot
	for _, file := range []int{0, -1, -7, math.MinInt32, math.MinInt} {
		all = append(all, full(file), slot(file, 0, 0))
	}
	for _, l := range wrongLists {
		all = append(all, api.Slot{File: 1, Rights: api.CapAll, Ioctls: l, Fcntls: allFcntls}, api.Slot{File: 1, Ioctls: l})
	}
	for _, fcntls := range wrongFcntls {
		all = append(all, api.Slot{File: 1, Rights: api.CapAll, Ioctls: api.List{All: true}, Fcntls: fcntls}, slot(1, 0, fcntls))
	}
	for bit := range 64 {
		if bit < 3 || bit > 6 {
			all = append(all, slot(1, api.CapFcntl, 1<<bit), slot(1, api.CapFcntl, allFcntls|1<<bit))
		}
	}
	return append(all, api.Slot{}, api.Slot{Ioctls: wrongLists[0], Fcntls: 1})
}

// P13.1, P13.2: what can be is there as it was handed in, by Put and by Set.
func TestCanBe(t *testing.T) {
	for _, s := range canBe() {
		x := New(4)
		put(t, x, 2, s, 2)
		set(t, x, 0, s, api.Slot{}, false)
		set(t, x, 2, s, s, true)
		is(t, x, fmt.Sprint(s), 4, heldAll{0: s, 2: s})
		take(t, x, 2, s)
	}
}

// P13.1, P13.2: what can't be is refused by Put and by Set, ahead of what is wrong with the number, and of there being no room.
func TestCanNotBe(t *testing.T) {
	there := heldAll{0: full(7), 1: slot(8, api.CapRead, 8, 1, 2)}
	for _, most := range []int{2, 3} {
		x := made(t, most, there)
		for _, s := range canNotBe() {
			for _, fd := range []int{0, 1, 2, 3, -1, 64, math.MaxInt, math.MinInt} {
				if n, e := x.Put(fd, s); n != 0 || e != api.EINVAL {
					t.Errorf("Put(%d, %v): %d %d", fd, s, n, e)
				}
				if was, ok, e := x.Set(fd, s); !empty(was) || ok || e != api.EINVAL {
					t.Errorf("Set(%d, %v): %v %v %d", fd, s, was, ok, e)
				}
			}
		}
		is(t, x, "behind what can't be", most, there)
	}
}

// noNumbers are those of which a table of 5 with 0, 2 and 4 has no descriptor.
var noNumbers = []int{1, 3, -1, -2, 5, 6, 63, 64, 65, math.MaxInt32, math.MinInt32, math.MaxInt, math.MinInt}

// P13.2, P13.3: of numbers of which there is no descriptor each call tells EBADF, ahead of all else, and changes nothing.
func TestNone(t *testing.T) {
	there := heldAll{0: full(1), 2: slot(2, api.CapRead, 0), 4: slot(3, 0, 8, 5)}
	x := made(t, 5, there)
	for _, fd := range noNumbers {
		for _, r := range []api.Rights{0, api.CapRead, api.CapAll} {
			if s, e := x.Get(fd, r); !empty(s) || e != api.EBADF {
				t.Errorf("Get(%d, %d): %v %d", fd, r, s, e)
			}
			tells(t, fmt.Sprint("Limit of ", fd), x.Limit(fd, r), api.EBADF)
		}
		if s, e := x.Take(fd); !empty(s) || e != api.EBADF {
			t.Errorf("Take(%d): %v %d", fd, s, e)
		}
		for _, l := range [][]int{nil, {}, {1}, {-1}, {3, 3}, rising(33)} {
			tells(t, fmt.Sprint("LimitIoctls of ", fd), x.LimitIoctls(fd, l), api.EBADF)
		}
		for _, mask := range []int{0, 8, allFcntls, 1, -1, math.MaxInt} {
			tells(t, fmt.Sprint("LimitFcntls of ", fd), x.LimitFcntls(fd, mask), api.EBADF)
		}
		is(t, x, fmt.Sprint("behind ", fd), 5, there)
	}
}

// P13.2: Get needs all rights of need: of none, some, all of a descriptor's, and of each beside them.
func TestGetNeeds(t *testing.T) {
	has := []api.Rights{0, api.CapRead, api.CapPdkill, api.CapRead | api.CapWrite, 0x55555555, 0xaaaaaaaa, api.CapAll &^ api.CapSeek, api.CapAll}
	for _, r := range has {
		s := slot(3, r, 8, 1, 2)
		x := made(t, 2, heldAll{1: s})
		needs := append([]api.Rights{r, r &^ api.CapRead, r | api.CapRead, ^r}, has...)
		for i := range 32 {
			needs = append(needs, 1<<i, r|1<<i, r&^(1<<i))
		}
		for _, need := range needs {
			enough := true
			for i := range 32 {
				if need>>i%2 == 1 && r>>i%2 == 0 {
					enough = false
				}
			}
			got, e := x.Get(1, need)
			if enough && (!alike(got, s) || e != api.OK) || !enough && (!empty(got) || e != api.ENOTCAPABLE) {
				t.Errorf("of %#x Get(1, %#x): %v %d", r, need, got, e)
			}
		}
		is(t, x, "behind Gets", 2, heldAll{1: s})
	}
}

// P13.2: Free tells the least free number from each on, of every set of descriptors; and Put lays there.
func TestFreeAndPut(t *testing.T) {
	for most := 1; most <= 6; most++ {
		for set := range 1 << most {
			all := heldAll{}
			for fd := range most {
				if set>>fd&1 == 1 {
					all[fd] = full(fd + 1)
				}
			}
			for from := -2; from <= most+1; from++ {
				freeAndPut(t, most, all, from)
			}
		}
	}
}

func freeAndPut(t *testing.T, most int, all heldAll, from int) {
	t.Helper()
	want, e := 0, api.EMFILE
	if from < 0 || from >= most {
		e = api.EINVAL
	} else {
		for fd := most - 1; fd >= from; fd-- {
			if _, there := all[fd]; !there {
				want, e = fd, api.OK
			}
		}
	}
	x := made(t, most, all)
	what := fmt.Sprintf("of %d with %v, from %d", most, x.All(), from)
	if fd, err := x.Free(from); fd != want || err != e {
		t.Errorf("%s: Free %d %d, not %d %d", what, fd, err, want, e)
	}
	is(t, x, what+", behind Free", most, all)
	if fd, err := x.Put(from, slot(99, api.CapRead, 8, 4)); fd != want || err != e {
		t.Errorf("%s: Put %d %d, not %d %d", what, fd, err, want, e)
	}
	behind := heldAll{}
	for fd, s := range all {
		behind[fd] = s
	}
	if e == api.OK {
		behind[want] = slot(99, api.CapRead, 8, 4)
	}
	is(t, x, what+", behind Put", most, behind)
}

// P13.2: the edges of the greatest table, and of the least one; beyond them EINVAL of Free, whether it is full or not.
func TestFreeAtTheEdges(t *testing.T) {
	for _, most := range []int{1, 64} {
		x := made(t, most, nil)
		for _, from := range []int{0, most - 1} {
			if fd, e := x.Free(from); fd != from || e != api.OK {
				t.Errorf("of %d Free(%d): %d %d", most, from, fd, e)
			}
		}
		for range 2 {
			for _, from := range []int{-1, most, most + 1, -most, math.MaxInt, math.MinInt} {
				if fd, e := x.Free(from); fd != 0 || e != api.EINVAL {
					t.Errorf("of %d Free(%d): %d %d", most, from, fd, e)
				}
				if fd, e := x.Put(from, full(1)); fd != 0 || e != api.EINVAL {
					t.Errorf("of %d Put(%d): %d %d", most, from, fd, e)
				}
			}
			for fd := range most {
				x.Set(fd, full(1))
			}
		}
		for _, from := range []int{0, most / 2, most - 1} {
			if fd, e := x.Free(from); fd != 0 || e != api.EMFILE {
				t.Errorf("of a full %d Free(%d): %d %d", most, from, fd, e)
			}
		}
	}
}

// P13.2: Set tells what was there, or that there was nothing, and lays at that number alone; beyond the numbers it tells EBADF.
func TestSet(t *testing.T) {
	x := made(t, 3, nil)
	a, b, c := slot(1, api.CapRead, 8, 1, 2), full(2), slot(3, 0, 0)
	set(t, x, 2, a, api.Slot{}, false)
	is(t, x, "one", 3, heldAll{2: a})
	set(t, x, 2, b, a, true)
	is(t, x, "another one there", 3, heldAll{2: b})
	set(t, x, 0, c, api.Slot{}, false)
	set(t, x, 2, b, b, true)
	set(t, x, 2, a, b, true)
	is(t, x, "two", 3, heldAll{0: c, 2: a})
	for _, fd := range []int{-1, 3, 4, 64, math.MaxInt, math.MinInt} {
		if was, ok, e := x.Set(fd, b); !empty(was) || ok || e != api.EBADF {
			t.Errorf("Set(%d): %v %v %d", fd, was, ok, e)
		}
	}
	is(t, x, "behind wrong numbers", 3, heldAll{0: c, 2: a})
	set(t, x, 1, b, api.Slot{}, false)
	set(t, x, 0, b, c, true)
	is(t, x, "full", 3, heldAll{0: b, 1: b, 2: a})
}

// P13.2: Take tells what was there, once, and the number is free then, and is given again.
func TestTake(t *testing.T) {
	a, b, c := slot(1, 0, 8, 1, 2), full(2), slot(3, api.CapAll, 0)
	x := made(t, 3, heldAll{0: a, 1: b, 2: c})
	take(t, x, 1, b)
	is(t, x, "without 1", 3, heldAll{0: a, 2: c})
	if s, e := x.Take(1); !empty(s) || e != api.EBADF {
		t.Errorf("Take(1) again: %v %d", s, e)
	}
	take(t, x, 0, a)
	put(t, x, 1, full(4), 1)
	put(t, x, 0, full(5), 0)
	is(t, x, "given again", 3, heldAll{0: full(5), 1: full(4), 2: c})
	take(t, x, 2, c)
	take(t, x, 0, full(5))
	take(t, x, 1, full(4))
	is(t, x, "none", 3, nil)
}

// P13.3: what a Limit leaves of a descriptor that has all, by each right alone, by all but each, by none and by all.
func TestLimitOfAll(t *testing.T) {
	asked := []api.Rights{0, api.CapAll, api.CapIoctl | api.CapFcntl, api.CapRead | api.CapIoctl, api.CapRead | api.CapFcntl, 0x55555555, 0xaaaaaaaa}
	for i := range 32 {
		asked = append(asked, 1<<i, api.CapAll&^(1<<i))
	}
	for _, r := range asked {
		for _, cmds := range []api.List{{All: true}, {L: []int{1, 2}}, {}} {
			for _, fcntls := range []int{allFcntls, 8, 0} {
				limitOf(t, api.Slot{File: 7, Rights: api.CapAll, Ioctls: cmds, Fcntls: fcntls}, r)
			}
		}
	}
}

// limitOf limits s to rights that it has, and says what is left of it: the bits 9 and 28 are fcntl and ioctl.
func limitOf(t *testing.T, s api.Slot, r api.Rights) {
	t.Helper()
	other := full(5)
	x := made(t, 3, heldAll{0: other, 1: s, 2: other})
	tells(t, fmt.Sprintf("of %v Limit to %#x", s, r), x.Limit(1, r), api.OK)
	left := s
	left.Rights = r
	if r>>28%2 == 0 {
		left.Ioctls = api.List{}
	}
	if r>>9%2 == 0 {
		left.Fcntls = 0
	}
	is(t, x, fmt.Sprintf("of %v Limit to %#x", s, r), 3, heldAll{0: other, 1: left, 2: other})
}

// P13.3: a Limit to the same rights leaves a descriptor as it was, but for commands without the right to them.
func TestLimitToTheSame(t *testing.T) {
	for _, s := range canBe() {
		limitOf(t, s, s.Rights)
		limitOf(t, s, 0)
	}
	limitOf(t, api.Slot{File: 1, Rights: api.CapRead, Ioctls: api.List{All: true}, Fcntls: allFcntls}, api.CapRead)
	limitOf(t, api.Slot{File: 1, Rights: api.CapIoctl, Ioctls: api.List{All: true}, Fcntls: allFcntls}, api.CapIoctl)
	limitOf(t, api.Slot{File: 1, Rights: api.CapFcntl, Ioctls: api.List{All: true}, Fcntls: allFcntls}, api.CapFcntl)
}

// P13.3, P13.5: a Limit to a right that it has not, alone or beside others, tells ENOTCAPABLE and changes nothing.
func TestLimitToMore(t *testing.T) {
	for _, r := range []api.Rights{0, api.CapRead, api.CapIoctl | api.CapFcntl, 0x55555555, api.CapAll &^ api.CapPdkill} {
		s := slot(2, r, 24, 1, 9)
		x := made(t, 1, heldAll{0: s})
		for i := range 32 {
			if r>>i%2 == 1 {
				continue
			}
			for _, more := range []api.Rights{1 << i, r | 1<<i, api.CapAll} {
				tells(t, fmt.Sprintf("of %#x Limit to %#x", r, more), x.Limit(0, more), api.ENOTCAPABLE)
				is(t, x, "behind a Limit to more", 1, heldAll{0: s})
			}
		}
	}
}

// P13.3, P13.5: what a Limit took away does not come back, neither a right nor a command.
func TestLimitStays(t *testing.T) {
	x := made(t, 1, heldAll{0: full(7)})
	tells(t, "to read and ioctl", x.Limit(0, api.CapRead|api.CapIoctl), api.OK)
	tells(t, "commands", x.LimitIoctls(0, []int{4, 2, 4}), api.OK)
	is(t, x, "read and ioctl", 1, heldAll{0: slot(7, api.CapRead|api.CapIoctl, 0, 2, 4)})
	tells(t, "fcntl again", x.Limit(0, api.CapRead|api.CapIoctl|api.CapFcntl), api.ENOTCAPABLE)
	tells(t, "its commands again", x.LimitFcntls(0, 8), api.ENOTCAPABLE)
	tells(t, "to read", x.Limit(0, api.CapRead), api.OK)
	is(t, x, "read", 1, heldAll{0: slot(7, api.CapRead, 0)})
	tells(t, "a command again", x.LimitIoctls(0, []int{2}), api.ENOTCAPABLE)
	tells(t, "no command", x.LimitIoctls(0, nil), api.OK)
	tells(t, "no command of fcntl", x.LimitFcntls(0, 0), api.OK)
	tells(t, "all again", x.Limit(0, api.CapAll), api.ENOTCAPABLE)
	tells(t, "to none", x.Limit(0, 0), api.OK)
	tells(t, "to none again", x.Limit(0, 0), api.OK)
	is(t, x, "none", 1, heldAll{0: slot(7, 0, 0)})
}

// The document's example.
func TestExample(t *testing.T) {
	x := made(t, 64, nil)
	put(t, x, 0, Full(7), 0)
	tells(t, "Limit", x.Limit(0, api.CapRead), api.OK)
	is(t, x, "the example", 64, heldAll{0: slot(7, api.CapRead, 0)})
}

// P13.3: LimitIoctls from all and from lists, to less, to the same, to more, and to what is no whitelist.
func TestLimitIoctls(t *testing.T) {
	all, none := api.List{All: true}, api.List{}
	list := func(l ...int) api.List { return api.List{L: l} }
	for _, c := range []struct {
		had  api.List
		l    []int
		left api.List
		e    api.Errno
	}{
		{all, nil, none, api.OK}, {all, []int{}, none, api.OK}, {all, []int{0}, list(0), api.OK},
		{all, []int{3, 1, 3, 2, 1}, list(1, 2, 3), api.OK}, {all, []int{math.MaxInt}, list(math.MaxInt), api.OK},
		{all, rising(32), list(rising(32)...), api.OK}, {all, append(rising(32), rising(32)...), list(rising(32)...), api.OK},
		{all, rising(33), all, api.EINVAL}, {all, []int{-1}, all, api.EINVAL}, {all, []int{1, math.MinInt}, all, api.EINVAL},
		{list(1, 2, 5), []int{5, 1}, list(1, 5), api.OK}, {list(1, 2, 5), nil, none, api.OK},
		{list(1, 2, 5), []int{5, 2, 1, 1}, list(1, 2, 5), api.OK}, {list(1, 2, 5), []int{2}, list(2), api.OK},
		{list(1, 2, 5), []int{3}, list(1, 2, 5), api.ENOTCAPABLE}, {list(1, 2, 5), []int{1, 2, 5, 6}, list(1, 2, 5), api.ENOTCAPABLE},
		{list(1, 2, 5), []int{0}, list(1, 2, 5), api.ENOTCAPABLE}, {list(1, 2, 5), []int{1, 4}, list(1, 2, 5), api.ENOTCAPABLE},
		{list(1, 2, 5), []int{3, -1}, list(1, 2, 5), api.EINVAL}, {list(1, 2, 5), rising(33), list(1, 2, 5), api.EINVAL},
		{list(rising(32)...), rising(32), list(rising(32)...), api.OK}, {list(rising(32)...), []int{31, 32}, list(rising(32)...), api.ENOTCAPABLE},
		{none, nil, none, api.OK}, {none, []int{0}, none, api.ENOTCAPABLE}, {none, []int{-1}, none, api.EINVAL},
	} {
		for _, r := range []api.Rights{api.CapAll, api.CapIoctl, 0} {
			was := api.Slot{File: 4, Rights: r, Ioctls: c.had, Fcntls: 40}
			left := api.Slot{File: 4, Rights: r, Ioctls: c.left, Fcntls: 40}
			x := made(t, 3, heldAll{0: was, 1: was, 2: was})
			what := fmt.Sprintf("of %v LimitIoctls to %v", was, c.l)
			tells(t, what, x.LimitIoctls(1, c.l), c.e)
			is(t, x, what, 3, heldAll{0: was, 1: left, 2: was})
		}
	}
}

// P13.3: LimitFcntls from each set of bits to each, and to those with a bit beyond.
func TestLimitFcntls(t *testing.T) {
	masks := append([]int{}, wrongFcntls...)
	for mask := -130; mask <= 300; mask++ {
		masks = append(masks, mask)
	}
	for had := 0; had <= allFcntls; had += 8 {
		for _, mask := range masks {
			left, e := had, api.EINVAL
			if mask >= 0 && mask <= allFcntls && mask%8 == 0 {
				left, e = mask, api.OK
				if mask&had != mask {
					left, e = had, api.ENOTCAPABLE
				}
			}
			was, other := slot(4, api.CapRead, had, 1, 2), full(2)
			x := made(t, 3, heldAll{0: other, 1: was, 2: other})
			what := fmt.Sprintf("of %#x LimitFcntls to %#x", had, mask)
			tells(t, what, x.LimitFcntls(1, mask), e)
			is(t, x, what, 3, heldAll{0: other, 1: slot(4, api.CapRead, left, 1, 2), 2: other})
		}
	}
}

// P13.4: All rises and Room is what is left, of every set of descriptors, laid forwards and backwards.
func TestAllAndRoom(t *testing.T) {
	const most = 7
	for set := range 1 << most {
		for _, back := range []bool{false, true} {
			x := made(t, most, nil)
			var all []int
			for fd := range most {
				if set>>fd&1 == 1 {
					all = append(all, fd)
				}
			}
			for i := range all {
				fd := all[i]
				if back {
					fd = all[len(all)-1-i]
				}
				put(t, x, fd, full(1), fd)
			}
			if got := x.All(); !slices.Equal(got, all) || x.Room() != most-len(all) {
				t.Errorf("%07b: All %v, Room %d", set, got, x.Room())
			}
		}
	}
}

// acts are what is done to one of two tables: each changes 0, which has all, or what is beside it.
var acts = []struct {
	what string
	act  func(x *Table) api.Errno
}{
	{"Limit", func(x *Table) api.Errno { return x.Limit(0, api.CapRead) }},
	{"Limit to none", func(x *Table) api.Errno { return x.Limit(1, 0) }},
	{"LimitIoctls", func(x *Table) api.Errno { return x.LimitIoctls(0, []int{1}) }},
	{"LimitIoctls of a list", func(x *Table) api.Errno { return x.LimitIoctls(1, []int{2}) }},
	{"LimitFcntls", func(x *Table) api.Errno { return x.LimitFcntls(0, 8) }},
	{"Take", func(x *Table) api.Errno { _, e := x.Take(0); return e }},
	{"Put", func(x *Table) api.Errno { _, e := x.Put(0, full(9)); return e }},
	{"Set", func(x *Table) api.Errno { _, _, e := x.Set(1, full(9)); return e }},
	{"Set of a free one", func(x *Table) api.Errno { _, _, e := x.Set(3, full(9)); return e }},
}

// P13.4: a Clone has the same, and is apart from then on, whichever of both is changed.
func TestCloneIsApart(t *testing.T) {
	there := heldAll{0: full(1), 1: slot(2, api.CapRead|api.CapIoctl, 24, 1, 2, 3)}
	for _, a := range acts {
		x := made(t, 4, there)
		c := x.Clone()
		is(t, c, "a clone", 4, there)
		tells(t, a.what, a.act(c), api.OK)
		is(t, x, a.what+" on the clone", 4, there)

		d := x.Clone()
		tells(t, a.what, a.act(x), api.OK)
		is(t, d, a.what+" on the one cloned", 4, there)
	}
}

// P13.4: a Clone has as many numbers, free and not, of every size; a clone of a clone too.
func TestCloneOfEverySize(t *testing.T) {
	for most := 1; most <= 64; most++ {
		all := heldAll{}
		for fd := 0; fd < most; fd += 3 {
			all[fd] = slot(fd+1, api.Rights(fd), 0, fd)
		}
		x := made(t, most, all)
		c := x.Clone().Clone()
		is(t, c, "a clone", most, all)
		for fd := range most {
			if _, there := all[fd]; !there {
				put(t, c, 0, full(70), fd)
			}
		}
		if _, e := c.Put(0, full(70)); e != api.EMFILE || c.Room() != 0 {
			t.Errorf("of %d a clone: %d, Room %d", most, e, c.Room())
		}
		if _, _, e := c.Set(most, full(70)); e != api.EBADF {
			t.Errorf("of %d a clone: Set: %d", most, e)
		}
		is(t, x, "the one cloned", most, all)
	}
}

// spoil overwrites a list and its spare room.
func spoil(l []int) {
	l = l[:cap(l)]
	for i := range l {
		l[i] = 77 + i
	}
}

// roomy answers the commands 1, 2, 3 in a list with spare room.
func roomy() []int { return append(make([]int, 0, 8), 1, 2, 3) }

// The rule of memory: what is handed in is not kept, nor changed, its spare room included.
func TestHandedInIsNotKept(t *testing.T) {
	want := slot(1, api.CapAll, 8, 1, 2, 3)
	a, b, l := roomy(), roomy(), []int{3, 1, 2, 3, 9, 9}[:4]
	x := made(t, 3, nil)
	put(t, x, 0, slot(1, api.CapAll, 8, a...), 0)
	set(t, x, 1, slot(1, api.CapAll, 8, b...), api.Slot{}, false)
	set(t, x, 2, api.Slot{File: 1, Rights: api.CapAll, Ioctls: api.List{All: true}, Fcntls: 8}, api.Slot{}, false)
	tells(t, "LimitIoctls", x.LimitIoctls(2, l), api.OK)
	for _, kept := range [][]int{a, b} {
		if !slices.Equal(kept[:8], []int{1, 2, 3, 0, 0, 0, 0, 0}) {
			t.Error("changed", kept[:8])
		}
		spoil(kept)
	}
	if !slices.Equal(l[:6], []int{3, 1, 2, 3, 9, 9}) {
		t.Error("changed", l[:6])
	}
	spoil(l)
	is(t, x, "handed in, spoilt", 3, heldAll{0: want, 1: want, 2: want})
	tells(t, "LimitIoctls", x.LimitIoctls(0, []int{2}), api.OK)
	tells(t, "LimitIoctls", x.LimitIoctls(1, nil), api.OK)
	for _, kept := range [][]int{a, b} {
		if kept[0] != 77 || kept[1] != 78 || kept[2] != 79 {
			t.Error("changed", kept)
		}
	}
}

// The rule of memory: what is answered is shared neither with the table, nor with a clone, nor with another answer.
func TestAnsweredIsNotShared(t *testing.T) {
	want := slot(1, api.CapAll, 8, 1, 2, 3)
	x := made(t, 4, heldAll{0: want, 1: want, 2: want})
	c := x.Clone()
	a, _ := x.Get(0, 0)
	b, _ := x.Get(0, api.CapRead)
	spoil(a.Ioctls.L)
	if !alike(b, want) {
		t.Error("two answers share", b)
	}
	spoil(b.Ioctls.L)
	is(t, x, "what Get told is spoilt", 4, heldAll{0: want, 1: want, 2: want})

	all, again := x.All(), x.All()
	spoil(all)
	if !slices.Equal(again, []int{0, 1, 2}) {
		t.Error("two answers share", again)
	}
	taken, _ := x.Take(0)
	was, _, _ := x.Set(1, want)
	spoil(taken.Ioctls.L)
	spoil(was.Ioctls.L)
	is(t, x, "what Take and Set told is spoilt", 4, heldAll{1: want, 2: want})
	is(t, c, "what the one cloned told is spoilt", 4, heldAll{0: want, 1: want, 2: want})
}

// The rule of memory: one descriptor laid at several numbers is as many descriptors; and what was told stays as it is.
func TestOneLaidTwice(t *testing.T) {
	s := slot(1, api.CapAll, allFcntls, roomy()...)
	x := made(t, 3, nil)
	put(t, x, 0, s, 0)
	put(t, x, 0, s, 1)
	told, _ := x.Get(1, 0)
	set(t, x, 2, told, api.Slot{}, false)
	tells(t, "Limit", x.Limit(0, api.CapRead), api.OK)
	tells(t, "LimitIoctls", x.LimitIoctls(1, []int{3}), api.OK)
	is(t, x, "laid twice", 3, heldAll{0: slot(1, api.CapRead, 0), 1: slot(1, api.CapAll, allFcntls, 3), 2: s})
	if !alike(told, s) {
		t.Error("what was told is changed", told)
	}
}

// P13.4: of a nil table EINVAL, ahead of all else, none, 0 and nil.
func TestNil(t *testing.T) {
	var x *Table
	for _, fd := range []int{0, 1, -1, 63, 64, math.MaxInt, math.MinInt} {
		if s, e := x.Get(fd, api.Rights(0)); !empty(s) || e != api.EINVAL {
			t.Errorf("Get(%d): %v %d", fd, s, e)
		}
		if n, e := x.Free(fd); n != 0 || e != api.EINVAL {
			t.Errorf("Free(%d): %d %d", fd, n, e)
		}
		for _, s := range []api.Slot{full(1), {}} {
			if n, e := x.Put(fd, s); n != 0 || e != api.EINVAL {
				t.Errorf("Put(%d): %d %d", fd, n, e)
			}
			if was, ok, e := x.Set(fd, s); !empty(was) || ok || e != api.EINVAL {
				t.Errorf("Set(%d): %v %v %d", fd, was, ok, e)
			}
		}
		if s, e := x.Take(fd); !empty(s) || e != api.EINVAL {
			t.Errorf("Take(%d): %v %d", fd, s, e)
		}
		tells(t, "Limit", x.Limit(fd, 0), api.EINVAL)
		tells(t, "Limit", x.Limit(fd, api.CapAll), api.EINVAL)
		tells(t, "LimitIoctls", x.LimitIoctls(fd, nil), api.EINVAL)
		tells(t, "LimitIoctls", x.LimitIoctls(fd, []int{1}), api.EINVAL)
		tells(t, "LimitFcntls", x.LimitFcntls(fd, 0), api.EINVAL)
		tells(t, "LimitFcntls", x.LimitFcntls(fd, 8), api.EINVAL)
	}
	if x.All() != nil || x.Room() != 0 || x.Clone() != nil {
		t.Error(x.All(), x.Room(), x.Clone())
	}
}

// The zero value is not made by New: what it answers is open, but no call of it panics.
func TestZeroValueDoesNotPanic(t *testing.T) {
	var zero Table
	for _, x := range []*Table{&zero, zero.Clone()} {
		for fd := -1; fd <= 64; fd++ {
			x.Put(fd, full(1))
			x.Set(fd, full(1))
			x.Get(fd, 0)
			x.Free(fd)
			x.Limit(fd, 0)
			x.LimitIoctls(fd, nil)
			x.LimitFcntls(fd, 0)
			x.Take(fd)
		}
		x.All()
		x.Room()
	}
}

// Two tables know nothing of one another.
func TestTwoTables(t *testing.T) {
	s := slot(1, api.CapAll, 8, roomy()...)
	a, b := made(t, 2, heldAll{0: s}), made(t, 3, heldAll{0: s})
	tells(t, "Limit", a.Limit(0, api.CapRead), api.OK)
	put(t, b, 0, full(2), 1)
	is(t, a, "the one", 2, heldAll{0: slot(1, api.CapRead, 0)})
	is(t, b, "the other", 3, heldAll{0: s, 1: full(2)})
	take(t, b, 0, s)
	is(t, a, "the one", 2, heldAll{0: slot(1, api.CapRead, 0)})
}
