package procs

import (
	"fmt"
	"math"
	"slices"
	"testing"

	"purlieu/api"
)

// nobody are numbers that no process ever has.
var nobody = []int{0, -1, -2, -64, math.MaxInt32, math.MinInt32, math.MaxInt, math.MinInt}

// made answers a table with room for most.
func made(t *testing.T, most int) *Table {
	t.Helper()
	x := New(most)
	if x == nil {
		t.Fatalf("New(%d): nil", most)
	}
	return x
}

// fork forks a process, whose child must have that number.
func fork(t *testing.T, x *Table, pid int, pd bool, want int) {
	t.Helper()
	if n, e := x.Fork(pid, pd); n != want || e != api.OK {
		t.Fatalf("Fork(%d, %v): %d %d, not %d", pid, pd, n, e, want)
	}
}

// noFork says that a process can't be forked, with descriptors that stand for children and without.
func noFork(t *testing.T, x *Table, pid int, want api.Errno) {
	t.Helper()
	for _, pd := range []bool{false, true} {
		if n, e := x.Fork(pid, pd); n != 0 || e != want {
			t.Errorf("Fork(%d, %v): %d %d, not 0 %d", pid, pd, n, e, want)
		}
	}
}

// waited says what Wait tells.
func waited(t *testing.T, x *Table, pid, which, child, code int, want api.Errno) {
	t.Helper()
	if n, c, e := x.Wait(pid, which); n != child || c != code || e != want {
		t.Errorf("Wait(%d, %d): %d %d %d, not %d %d %d", pid, which, n, c, e, child, code, want)
	}
}

// reaped says what Reap tells.
func reaped(t *testing.T, x *Table, pid, code int, want api.Errno) {
	t.Helper()
	if c, e := x.Reap(pid); c != code || e != want {
		t.Errorf("Reap(%d): %d %d, not %d %d", pid, c, e, code, want)
	}
}

// moved says what Move tells.
func moved(t *testing.T, x *Table, pid, dir, was int, want api.Errno) {
	t.Helper()
	if d, e := x.Move(pid, dir); d != was || e != want {
		t.Errorf("Move(%d, %d): %d %d, not %d %d", pid, dir, d, e, was, want)
	}
}

// tells says which error a call told.
func tells(t *testing.T, what string, got, want api.Errno) {
	t.Helper()
	if got != want {
		t.Errorf("%s: %d, not %d", what, got, want)
	}
}

// alive answers a process that lives, in the directory 1, as Fork makes it.
func alive(pid, parent int) api.Proc {
	return api.Proc{Pid: pid, Parent: parent, Lives: true, Cwd: 1}
}

// ended answers a process that ended.
func ended(pid, parent, code int) api.Proc {
	return api.Proc{Pid: pid, Parent: parent, Code: code}
}

// with answers a process for which a descriptor stands.
func with(p api.Proc) api.Proc {
	p.Pd = true
	return p
}

// within answers a process that is in capability mode.
func within(p api.Proc) api.Proc {
	p.Cap = true
	return p
}

// in answers a process that is in that directory.
func in(p api.Proc, dir int) api.Proc {
	p.Cwd = dir
	return p
}

// is says what x has: these processes, room for so many more, and the number of the next one.
func is(t *testing.T, x *Table, what string, room, next int, want ...api.Proc) {
	t.Helper()
	if got := x.Dump(); !slices.Equal(got, want) {
		t.Errorf("%s: %v, not %v", what, got, want)
	}
	if x.Room() != room || x.Numbers() != next {
		t.Errorf("%s: Room %d, Numbers %d, not %d, %d", what, x.Room(), x.Numbers(), room, next)
	}
	for pid := -1; pid <= next+1; pid++ {
		var p api.Proc
		at := slices.IndexFunc(want, func(p api.Proc) bool { return p.Pid == pid })
		if at >= 0 {
			p = want[at]
		}
		if got, ok := x.Get(pid); got != p || ok != (at >= 0) {
			t.Errorf("%s: Get(%d): %v %v, not %v", what, pid, got, ok, p)
		}
		if x.Lives(pid) != p.Lives {
			t.Errorf("%s: Lives(%d): not %v", what, pid, p.Lives)
		}
	}
}

// family answers a table with room for most, and this in it: 1 has 2, 3 and 4 (with Pd), 2 has 5 and 6 (with Pd), 5 has 7.
func family(t *testing.T, most int) *Table {
	t.Helper()
	x := made(t, most)
	fork(t, x, 1, false, 2)
	fork(t, x, 1, false, 3)
	fork(t, x, 1, true, 4)
	fork(t, x, 2, false, 5)
	fork(t, x, 2, true, 6)
	fork(t, x, 5, false, 7)
	is(t, x, "a family", most-7, 8, alive(1, 0), alive(2, 1), alive(3, 1), with(alive(4, 1)), alive(5, 2), with(alive(6, 2)), alive(7, 5))
	return x
}

// P14.1: the limit is that of the document.
func TestLimits(t *testing.T) {
	if api.MaxProcs != 64 || first != 1 {
		t.Error(api.MaxProcs, first)
	}
}

// P14.1: tables of all sizes have one process, as much room as they say, and no more.
func TestNew(t *testing.T) {
	for most := 1; most <= 64; most++ {
		x := made(t, most)
		want := []api.Proc{{Pid: 1, Parent: 0, Lives: true, Code: 0, Pd: false, Cap: false, Cwd: 1}}
		is(t, x, "new", most-1, 2, want...)
		for pid := 2; pid <= most; pid++ {
			fork(t, x, 1, false, pid)
			want = append(want, alive(pid, 1))
			is(t, x, "forked", most-pid, pid+1, want...)
		}
		noFork(t, x, 1, api.EAGAIN)
		is(t, x, "full", 0, most+1, want...)
	}
}

// P14.1: no table has a size beyond those.
func TestNewWrong(t *testing.T) {
	for _, most := range []int{0, -1, -2, -64, 65, 66, 128, 256, math.MaxInt32, math.MinInt32, math.MaxInt, math.MinInt} {
		if New(most) != nil {
			t.Errorf("New(%d): not nil", most)
		}
	}
}

// P14.1: Get and Lives of one that lives, of one that ended, of one that was reaped, of one that never was.
func TestGetAndLives(t *testing.T) {
	x := family(t, 8)
	tells(t, "Exit", x.Exit(3, 9), api.OK)
	if p, ok := x.Get(3); p != ended(3, 1, 9) || !ok || x.Lives(3) {
		t.Error("ended:", p, ok, x.Lives(3))
	}
	waited(t, x, 1, 0, 3, 9, api.OK)
	for _, pid := range append([]int{3, 8, 9, 64, 65}, nobody...) {
		if p, ok := x.Get(pid); p != (api.Proc{}) || ok || x.Lives(pid) {
			t.Errorf("%d: %v %v %v", pid, p, ok, x.Lives(pid))
		}
	}
	if p, ok := x.Get(6); p != with(alive(6, 2)) || !ok || !x.Lives(6) {
		t.Error("lives:", p, ok, x.Lives(6))
	}
}

// P14.1: what Get tells is not the table's own.
func TestGetIsACopy(t *testing.T) {
	x := made(t, 2)
	p, _ := x.Get(1)
	p.Lives, p.Cwd, p.Cap = false, 9, true
	is(t, x, "the copy is changed", 1, 2, alive(1, 0))
	moved(t, x, 1, 5, 1, api.OK)
	if p.Cwd != 9 {
		t.Error("the table changes what it told", p)
	}
}

// P14.1, P14.2: what ended needs room until it is reaped, and then no more.
func TestEndedNeedsRoom(t *testing.T) {
	x := made(t, 2)
	fork(t, x, 1, false, 2)
	noFork(t, x, 1, api.EAGAIN)
	tells(t, "Exit", x.Exit(2, 3), api.OK)
	noFork(t, x, 1, api.EAGAIN)
	is(t, x, "ended", 0, 3, alive(1, 0), ended(2, 1, 3))
	waited(t, x, 1, 2, 2, 3, api.OK)
	is(t, x, "waited for", 1, 3, alive(1, 0))
	fork(t, x, 1, true, 3)
	tells(t, "Exit", x.Exit(3, 4), api.OK)
	noFork(t, x, 1, api.EAGAIN)
	reaped(t, x, 3, 4, api.OK)
	is(t, x, "reaped", 1, 4, alive(1, 0))
	fork(t, x, 1, false, 4)
	is(t, x, "full again", 0, 5, alive(1, 0), alive(4, 1))

	alone := made(t, 1)
	noFork(t, alone, 1, api.EAGAIN)
	is(t, alone, "of one", 0, 2, alive(1, 0))
}

// P14.1: numbers are never handed out twice, whichever is gone, nor left out by a Fork that is refused.
func TestNumbers(t *testing.T) {
	x := made(t, 3)
	fork(t, x, 1, false, 2)
	fork(t, x, 2, false, 3)
	noFork(t, x, 1, api.EAGAIN)
	tells(t, "Exit", x.Exit(3, 0), api.OK)
	waited(t, x, 2, 0, 3, 0, api.OK)
	noFork(t, x, 3, api.ESRCH)
	fork(t, x, 1, false, 4)
	tells(t, "Exit", x.Exit(2, 0), api.OK)
	reaped(t, x, 2, 0, api.OK)
	fork(t, x, 4, false, 5)
	is(t, x, "others came", 0, 6, alive(1, 0), alive(4, 1), alive(5, 4))

	two := made(t, 2)
	for pid := 2; pid <= 1000; pid++ {
		fork(t, two, 1, pid%2 == 0, pid)
		tells(t, "Exit", two.Exit(pid, pid), api.OK)
		reaped(t, two, pid, pid, api.OK)
		if two.Numbers() != pid+1 || two.Room() != 1 {
			t.Fatal(pid, two.Numbers(), two.Room())
		}
	}
	is(t, two, "one by one", 1, 1001, alive(1, 0))
}

// P14.2: a child has its parent's directory and mode as these are when it is forked, Pd as asked, whatever its parent has.
func TestFork(t *testing.T) {
	for _, parent := range []bool{false, true} {
		for _, child := range []bool{false, true} {
			x := made(t, 5)
			fork(t, x, 1, parent, 2)
			fork(t, x, 2, child, 3)
			moved(t, x, 2, 7, 1, api.OK)
			tells(t, "Enter", x.Enter(2), api.OK)
			fork(t, x, 2, child, 4)
			moved(t, x, 2, 8, 7, api.OK)
			fork(t, x, 1, child, 5)
			one, two := alive(1, 0), within(in(alive(2, 1), 8))
			three, four, five := alive(3, 2), within(in(alive(4, 2), 7)), alive(5, 1)
			two.Pd, three.Pd, four.Pd, five.Pd = parent, child, child, child
			is(t, x, "forked", 0, 6, one, two, three, four, five)
		}
	}
}

// P14.2: who does not live can't be forked, and that is told ahead of there being no room.
func TestForkFirstError(t *testing.T) {
	x := made(t, 4)
	fork(t, x, 1, false, 2)
	fork(t, x, 1, false, 3)
	tells(t, "Exit", x.Exit(2, 1), api.OK)
	tells(t, "Exit", x.Exit(3, 1), api.OK)
	reaped(t, x, 3, 1, api.OK)
	for _, room := range []int{2, 1, 0} {
		want := x.Dump()
		for _, pid := range append([]int{2, 3, 7}, nobody...) {
			noFork(t, x, pid, api.ESRCH)
		}
		is(t, x, "behind errors", room, 6-room, want...)
		if room > 0 {
			fork(t, x, 1, false, 6-room)
		}
	}
	noFork(t, x, 1, api.EAGAIN)
}

// P14.2: what ended lives no more, is in no directory, and has the code; all else of it stays, as do the others.
func TestExit(t *testing.T) {
	for _, code := range []int{0, 1, 7, 137, 255, 256, -1, math.MaxInt, math.MinInt} {
		x := family(t, 7)
		tells(t, "Enter", x.Enter(6), api.OK)
		moved(t, x, 6, 9, 1, api.OK)
		tells(t, "Exit", x.Exit(6, code), api.OK)
		want := []api.Proc{alive(1, 0), alive(2, 1), alive(3, 1), with(alive(4, 1)), alive(5, 2), within(with(ended(6, 2, code))), alive(7, 5)}
		is(t, x, "ended", 0, 8, want...)
		tells(t, "Exit again", x.Exit(6, 3), api.ESRCH)
		is(t, x, "ended twice", 0, 8, want...)
	}
}

// P14.2: who does not live does not end; the first never does.
func TestExitErrors(t *testing.T) {
	x := family(t, 7)
	tells(t, "Exit", x.Exit(3, 1), api.OK)
	waited(t, x, 1, 3, 3, 1, api.OK)
	tells(t, "Exit", x.Exit(7, 2), api.OK)
	want := x.Dump()
	for _, code := range []int{0, 5, -1} {
		tells(t, "Exit of 1", x.Exit(1, code), api.EPERM)
		for _, pid := range append([]int{3, 7, 8, 64}, nobody...) {
			tells(t, fmt.Sprintf("Exit(%d, %d)", pid, code), x.Exit(pid, code), api.ESRCH)
		}
	}
	is(t, x, "behind errors", 1, 8, want...)

	alone := made(t, 1)
	tells(t, "Exit of 1 alone", alone.Exit(1, 0), api.EPERM)
	is(t, alone, "alone", 0, 2, alive(1, 0))
}

// P14.2, P14.5: all children of what ended are the first one's then: those that live, that ended, and with Pd; their own children stay theirs.
func TestExitOfAParent(t *testing.T) {
	x := family(t, 9)
	fork(t, x, 2, false, 8)
	tells(t, "Exit", x.Exit(8, 4), api.OK)
	tells(t, "Exit", x.Exit(6, 5), api.OK)
	fork(t, x, 2, true, 9)
	tells(t, "Exit", x.Exit(2, 6), api.OK)
	is(t, x, "2 ended", 0, 10, alive(1, 0), ended(2, 1, 6), alive(3, 1), with(alive(4, 1)), alive(5, 1),
		with(ended(6, 1, 5)), alive(7, 5), ended(8, 1, 4), with(alive(9, 1)))
	waited(t, x, 1, 8, 8, 4, api.OK)
	waited(t, x, 1, 6, 0, 0, api.ECHILD)
	waited(t, x, 1, 7, 0, 0, api.ECHILD)
	waited(t, x, 1, 0, 2, 6, api.OK)
	tells(t, "Exit", x.Exit(5, 0), api.OK)
	is(t, x, "5 ended", 2, 10, alive(1, 0), alive(3, 1), with(alive(4, 1)), ended(5, 1, 0),
		with(ended(6, 1, 5)), alive(7, 1), with(alive(9, 1)))
}

// The chapter's example.
func TestExample(t *testing.T) {
	x := made(t, 2)
	fork(t, x, 1, false, 2)
	tells(t, "Exit", x.Exit(2, 7), api.OK)
	waited(t, x, 1, 0, 2, 7, api.OK)
	is(t, x, "the example", 1, 3, alive(1, 0))
}

// P14.3: without children, or with those alone that Pd has, there is none to wait for.
func TestWaitWithoutChildren(t *testing.T) {
	x := made(t, 6)
	for _, which := range []int{0, 1, 2, 3, math.MaxInt} {
		waited(t, x, 1, which, 0, 0, api.ECHILD)
	}
	fork(t, x, 1, true, 2)
	fork(t, x, 1, true, 3)
	tells(t, "Exit", x.Exit(3, 8), api.OK)
	for _, which := range []int{0, 1, 2, 3, 4} {
		waited(t, x, 1, which, 0, 0, api.ECHILD)
	}
	fork(t, x, 2, false, 4)
	tells(t, "Exit", x.Exit(4, 8), api.OK)
	for _, which := range []int{0, 1, 2, 3, 4} {
		waited(t, x, 1, which, 0, 0, api.ECHILD)
	}
	is(t, x, "none waited for", 2, 5, alive(1, 0), with(alive(2, 1)), with(ended(3, 1, 8)), ended(4, 2, 8))
}

// P14.3: where all live, it is told that one must wait, of all and of one; what lives with Pd, or is another's, or a child's child, plays no part.
func TestWaitWhereAllLive(t *testing.T) {
	x := family(t, 8)
	tells(t, "Exit", x.Exit(4, 1), api.OK)
	tells(t, "Exit", x.Exit(7, 2), api.OK)
	want := x.Dump()
	for _, which := range []int{0, 2, 3} {
		waited(t, x, 1, which, 0, 0, api.EAGAIN)
	}
	for _, which := range []int{1, 4, 5, 6, 7, 8, math.MaxInt} {
		waited(t, x, 1, which, 0, 0, api.ECHILD)
	}
	waited(t, x, 2, 0, 0, 0, api.EAGAIN)
	waited(t, x, 2, 5, 0, 0, api.EAGAIN)
	for _, which := range []int{1, 2, 3, 4, 6, 7} {
		waited(t, x, 2, which, 0, 0, api.ECHILD)
	}
	waited(t, x, 3, 0, 0, 0, api.ECHILD)
	is(t, x, "none waited for", 1, 8, want...)
	waited(t, x, 5, 0, 7, 2, api.OK)
}

// P14.3: of several that ended the one with the least number is told first, whichever ended first; of one that is named, that.
func TestWaitOfSeveral(t *testing.T) {
	x := made(t, 8)
	for pid := 2; pid <= 8; pid++ {
		fork(t, x, 1, pid == 3, pid)
	}
	for _, pid := range []int{8, 5, 3, 7, 4} {
		tells(t, "Exit", x.Exit(pid, 10*pid), api.OK)
	}
	waited(t, x, 1, 2, 0, 0, api.EAGAIN)
	waited(t, x, 1, 3, 0, 0, api.ECHILD)
	waited(t, x, 1, 7, 7, 70, api.OK)
	waited(t, x, 1, 7, 0, 0, api.ECHILD)
	is(t, x, "7 is waited for", 1, 9, alive(1, 0), alive(2, 1), with(ended(3, 1, 30)), ended(4, 1, 40), ended(5, 1, 50), alive(6, 1), ended(8, 1, 80))
	waited(t, x, 1, 0, 4, 40, api.OK)
	waited(t, x, 1, 0, 5, 50, api.OK)
	tells(t, "Exit", x.Exit(6, 60), api.OK)
	waited(t, x, 1, 0, 6, 60, api.OK)
	waited(t, x, 1, 0, 8, 80, api.OK)
	waited(t, x, 1, 0, 0, 0, api.EAGAIN)
	is(t, x, "all are waited for", 5, 9, alive(1, 0), alive(2, 1), with(ended(3, 1, 30)))
}

// P14.3: a which below 0 is wrong, whichever children there are, and changes nothing.
func TestWaitBelow0(t *testing.T) {
	below := []int{-1, -2, -100, math.MinInt32, math.MinInt}
	x := family(t, 7)
	refuse := func(what string) {
		t.Helper()
		want, room := x.Dump(), x.Room()
		for _, pid := range []int{1, 2, 3, 6, 9, 0, -1} {
			for _, which := range below {
				waited(t, x, pid, which, 0, 0, api.EINVAL)
			}
		}
		is(t, x, what, room, 8, want...)
	}
	refuse("all live")
	tells(t, "Exit", x.Exit(5, 3), api.OK)
	tells(t, "Exit", x.Exit(3, 3), api.OK)
	refuse("some ended")
	waited(t, x, 1, 0, 3, 3, api.OK)
	refuse("one was waited for")
}

// P14.3: who is not there, or lives no more, has no children; 1 is a child of 0, the number of its parent, and lives.
func TestWaitOfNobody(t *testing.T) {
	x := family(t, 8)
	tells(t, "Exit", x.Exit(7, 1), api.OK)
	tells(t, "Exit", x.Exit(2, 1), api.OK)
	tells(t, "Exit", x.Exit(3, 1), api.OK)
	waited(t, x, 1, 3, 3, 1, api.OK)
	want := x.Dump()
	for _, pid := range append([]int{2, 3, 7, 8, 9}, nobody...) {
		for _, which := range []int{0, 1, 2, 5, 7} {
			if pid == 0 && which < 2 {
				waited(t, x, pid, which, 0, 0, api.EAGAIN)
			} else {
				waited(t, x, pid, which, 0, 0, api.ECHILD)
			}
		}
	}
	is(t, x, "behind errors", 2, 8, want...)
}

// P14.3: Reap takes out what ended, with Pd or without, whoever's child it is; what lives stays.
func TestReap(t *testing.T) {
	x := family(t, 7)
	for _, pid := range []int{6, 3, 7} {
		tells(t, "Exit", x.Exit(pid, 100+pid), api.OK)
	}
	for _, pid := range []int{1, 2, 4, 5} {
		reaped(t, x, pid, 0, api.EAGAIN)
	}
	for _, pid := range append([]int{8, 9}, nobody...) {
		reaped(t, x, pid, 0, api.ESRCH)
	}
	is(t, x, "none reaped", 0, 8, alive(1, 0), alive(2, 1), ended(3, 1, 103), with(alive(4, 1)), alive(5, 2), with(ended(6, 2, 106)), ended(7, 5, 107))
	for i, pid := range []int{6, 7, 3} {
		reaped(t, x, pid, 100+pid, api.OK)
		reaped(t, x, pid, 0, api.ESRCH)
		if x.Room() != i+1 {
			t.Error("Room", x.Room())
		}
	}
	is(t, x, "reaped", 3, 8, alive(1, 0), alive(2, 1), with(alive(4, 1)), alive(5, 2))
	tells(t, "Exit", x.Exit(5, -3), api.OK)
	reaped(t, x, 5, -3, api.OK)
	waited(t, x, 2, 5, 0, 0, api.ECHILD)
}

// P14.4, P14.6: Enter goes for good, of that process alone, and of those that are forked behind it.
func TestEnter(t *testing.T) {
	x := family(t, 9)
	for range 2 {
		tells(t, "Enter", x.Enter(2), api.OK)
		is(t, x, "entered", 2, 8, alive(1, 0), within(alive(2, 1)), alive(3, 1), with(alive(4, 1)), alive(5, 2), with(alive(6, 2)), alive(7, 5))
	}
	fork(t, x, 2, false, 8)
	fork(t, x, 8, true, 9)
	moved(t, x, 8, 4, 1, api.OK)
	tells(t, "Exit", x.Exit(2, 1), api.OK)
	tells(t, "Exit", x.Exit(9, 2), api.OK)
	is(t, x, "stays", 0, 10, alive(1, 0), within(ended(2, 1, 1)), alive(3, 1), with(alive(4, 1)), alive(5, 1), with(alive(6, 1)),
		alive(7, 5), within(in(alive(8, 1), 4)), within(with(ended(9, 8, 2))))
}

// P14.4: who does not live does not enter.
func TestEnterErrors(t *testing.T) {
	x := family(t, 7)
	tells(t, "Exit", x.Exit(3, 1), api.OK)
	reaped(t, x, 3, 1, api.OK)
	tells(t, "Exit", x.Exit(4, 1), api.OK)
	want := x.Dump()
	for _, pid := range append([]int{3, 4, 8, 64}, nobody...) {
		tells(t, fmt.Sprintf("Enter(%d)", pid), x.Enter(pid), api.ESRCH)
	}
	is(t, x, "behind errors", 1, 8, want...)
}

// P14.4: Move tells where it was, of that process alone; directories have numbers from 1 on, and no greatest one.
func TestMove(t *testing.T) {
	x := made(t, 3)
	fork(t, x, 1, false, 2)
	fork(t, x, 2, false, 3)
	was := 1
	for _, dir := range []int{1, 2, 2, 256, 257, math.MaxInt32, math.MaxInt, 1, 9} {
		for _, wrong := range []int{0, -1, -100, math.MinInt32, math.MinInt} {
			moved(t, x, 2, wrong, 0, api.EINVAL)
		}
		is(t, x, "not moved", 0, 4, alive(1, 0), in(alive(2, 1), was), alive(3, 2))
		moved(t, x, 2, dir, was, api.OK)
		was = dir
		is(t, x, "moved", 0, 4, alive(1, 0), in(alive(2, 1), was), alive(3, 2))
	}
	moved(t, x, 1, 5, 1, api.OK)
	is(t, x, "the first moved", 0, 4, in(alive(1, 0), 5), in(alive(2, 1), 9), alive(3, 2))
}

// P14.4: who does not live does not move, and that is told ahead of a wrong directory.
func TestMoveErrors(t *testing.T) {
	x := family(t, 7)
	tells(t, "Exit", x.Exit(3, 1), api.OK)
	reaped(t, x, 3, 1, api.OK)
	tells(t, "Exit", x.Exit(4, 1), api.OK)
	want := x.Dump()
	for _, pid := range append([]int{3, 4, 8, 64}, nobody...) {
		for _, dir := range []int{0, 1, -1, 7, math.MaxInt, math.MinInt} {
			moved(t, x, pid, dir, 0, api.ESRCH)
		}
	}
	is(t, x, "behind errors", 1, 8, want...)
}

// P14.4: Dump tells processes by their numbers, behind those at the front, in the middle and at the end that are gone.
func TestDumpBehindReaps(t *testing.T) {
	const n = 6
	for set := range 1 << n {
		for _, back := range []bool{false, true} {
			x, left := made(t, n+1), []api.Proc{alive(1, 0)}
			for pid := 2; pid < n+2; pid++ {
				fork(t, x, 1, false, pid)
				if set>>(pid-2)&1 == 0 {
					left = append(left, alive(pid, 1))
				}
			}
			for i := range n {
				if back {
					i = n - 1 - i
				}
				if set>>i&1 == 1 {
					tells(t, "Exit", x.Exit(i+2, i), api.OK)
					reaped(t, x, i+2, i, api.OK)
				}
			}
			is(t, x, fmt.Sprintf("without %06b", set), n+1-len(left), n+2, left...)
			next := n + 2
			for ; len(left) < n+1; next++ {
				fork(t, x, 1, false, next)
				left = append(left, alive(next, 1))
			}
			is(t, x, fmt.Sprintf("without %06b, full again", set), 0, next, left...)
		}
	}
}

// P14.4: what Dump tells is new memory, its spare room too, and stays as it is.
func TestDumpIsNew(t *testing.T) {
	x := family(t, 12)
	a, b, want := x.Dump(), x.Dump(), x.Dump()
	spoil := a[:cap(a)]
	for i := range spoil {
		spoil[i] = api.Proc{Pid: 99}
	}
	is(t, x, "a dump is changed", 5, 8, want...)
	if !slices.Equal(b, want) {
		t.Error("two dumps share", b)
	}
	_ = append(b, api.Proc{Pid: 98})
	fork(t, x, 1, false, 8)
	moved(t, x, 1, 8, 1, api.OK)
	tells(t, "Enter", x.Enter(5), api.OK)
	tells(t, "Exit", x.Exit(2, 1), api.OK)
	reaped(t, x, 2, 1, api.OK)
	if !slices.Equal(b, want) {
		t.Error("a dump is changed by the table", b)
	}
	_ = append(x.Dump(), api.Proc{Pid: 97})
	fork(t, x, 8, false, 9)
	is(t, x, "dumps were longer", 4, 10, in(alive(1, 0), 8), alive(3, 1), with(alive(4, 1)), within(alive(5, 1)),
		with(alive(6, 1)), alive(7, 5), alive(8, 1), alive(9, 8))
}

// P14.4: of a nil table ESRCH, ahead of all else, none, and 0.
func TestNil(t *testing.T) {
	var x *Table
	for range 2 {
		is(t, x, "nil", 0, 0)
		for _, pid := range append([]int{1, 2}, nobody...) {
			if p, ok := x.Get(pid); p != (api.Proc{}) || ok || x.Lives(pid) {
				t.Errorf("Get(%d): %v %v", pid, p, ok)
			}
			noFork(t, x, pid, api.ESRCH)
			reaped(t, x, pid, 0, api.ESRCH)
			tells(t, "Enter", x.Enter(pid), api.ESRCH)
			for _, n := range []int{0, 1, -1, 5, math.MinInt} {
				tells(t, "Exit", x.Exit(pid, n), api.ESRCH)
				waited(t, x, pid, n, 0, 0, api.ESRCH)
				moved(t, x, pid, n, 0, api.ESRCH)
			}
		}
	}
}

// The zero value is not made by New: what it answers is open, but no call of it panics.
func TestZeroValueDoesNotPanic(t *testing.T) {
	var x Table
	for pid := range 3 {
		x.Get(pid)
		x.Lives(pid)
		x.Fork(pid, false)
		x.Exit(pid, 1)
		x.Wait(pid, 0)
		x.Reap(pid)
		x.Enter(pid)
		x.Move(pid, 1)
		x.Room()
		x.Numbers()
		x.Dump()
	}
}

// Two tables know nothing of one another.
func TestTwoTables(t *testing.T) {
	a, b := made(t, 2), made(t, 3)
	fork(t, a, 1, false, 2)
	moved(t, a, 1, 6, 1, api.OK)
	fork(t, b, 1, true, 2)
	tells(t, "Enter", b.Enter(1), api.OK)
	tells(t, "Exit", b.Exit(2, 1), api.OK)
	is(t, a, "the one", 0, 3, in(alive(1, 0), 6), alive(2, 1))
	is(t, b, "the other", 1, 3, within(alive(1, 0)), with(ended(2, 1, 1)))
}
