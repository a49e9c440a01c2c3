package files

import (
	"fmt"
	"math"
	"slices"
	"testing"

	"purlieu/api"
)

// kinds are those of which there may be open files.
var kinds = []int{api.KFile, api.KDir, api.KPipe, api.KSock, api.KProc}

// wrongKinds are those of which there may be none, and what is no kind at all.
var wrongKinds = []int{api.KSymlink, api.KBound, 0, -1, api.KProc + 1, 16, math.MaxInt, math.MinInt}

// rightFlags are all flags that an open file may have.
var rightFlags = []int{0, 1, 2, 4, 5, 6, 8, 9, 10, 12, 13, 14}

// wrongFlags have both ways of access, or a bit that does not stay.
var wrongFlags = []int{
	3, 7, 11, 15, 16, 17, 32, 64, 128, -1, -16, -4, math.MaxInt, math.MinInt,
	api.ONofollow, api.OCreat, api.OTrunc, api.OExcl, api.ODirectory, api.OWrite | api.OCreat, api.OAppend | 1<<62,
}

// made answers a table with room for most, and n open files: of the number i one of the inode 10 * i.
func made(t *testing.T, most, n int) *Table {
	t.Helper()
	x := New(most)
	if x == nil {
		t.Fatalf("New(%d): nil", most)
	}
	for i := range n {
		open(t, x, api.KFile, 10*(i+1), 0, i+1)
	}
	return x
}

// open opens a file, which must have that number.
func open(t *testing.T, x *Table, kind, obj, flags, want int) {
	t.Helper()
	if id, e := x.Open(kind, obj, flags); id != want || e != api.OK {
		t.Fatalf("Open(%d, %d, %d): %d %d, not %d", kind, obj, flags, id, e, want)
	}
}

// drop drops an open file, which is gone by that, or is not.
func drop(t *testing.T, x *Table, id int, want bool) {
	t.Helper()
	if gone, e := x.Drop(id); gone != want || e != api.OK {
		t.Fatalf("Drop(%d): %v %d, not %v", id, gone, e, want)
	}
}

// well says that a call told no error.
func well(t *testing.T, what string, e api.Errno) {
	t.Helper()
	if e != api.OK {
		t.Fatalf("%s: %d", what, e)
	}
}

// file answers the open file of that number as made has it.
func file(id int) api.File {
	return api.File{ID: id, Kind: api.KFile, Obj: 10 * id, Refs: 1}
}

// is says what x has: these open files, room for so many more, and the number of the next one.
func is(t *testing.T, x *Table, what string, room, next int, want ...api.File) {
	t.Helper()
	if got := x.Dump(); !slices.Equal(got, want) {
		t.Errorf("%s: %v, not %v", what, got, want)
	}
	if x.Room() != room || x.Numbers() != next {
		t.Errorf("%s: Room %d, Numbers %d, not %d, %d", what, x.Room(), x.Numbers(), room, next)
	}
	for _, f := range want {
		if got, ok := x.Get(f.ID); got != f || !ok {
			t.Errorf("%s: Get(%d): %v %v, not %v", what, f.ID, got, ok, f)
		}
	}
}

// P12.1: the limits and flags are those of the document.
func TestLimits(t *testing.T) {
	if api.MaxFiles != 256 || api.OStays != 15 || loose != 12 {
		t.Error(api.MaxFiles, api.OStays, loose)
	}
}

// P12.1: tables of all sizes have no open files, as much room as they say, and no more.
func TestNew(t *testing.T) {
	for most := 1; most <= 256; most++ {
		x := New(most)
		if x == nil {
			t.Fatalf("New(%d): nil", most)
		}
		is(t, x, "new", most, 1)
		for i := range most {
			open(t, x, api.KFile, 1, 0, i+1)
		}
		if id, e := x.Open(api.KFile, 1, 0); id != 0 || e != api.ENFILE {
			t.Errorf("New(%d): one beyond: %d %d", most, id, e)
		}
		if x.Room() != 0 || x.Numbers() != most+1 || len(x.Dump()) != most {
			t.Errorf("New(%d): Room %d, Numbers %d, %d open", most, x.Room(), x.Numbers(), len(x.Dump()))
		}
	}
}

// P12.1: no table has a size beyond those.
func TestNewWrong(t *testing.T) {
	for _, most := range []int{0, -1, -2, -256, 257, 258, 512, math.MaxInt32, math.MinInt32, math.MaxInt, math.MinInt} {
		if New(most) != nil {
			t.Errorf("New(%d): not nil", most)
		}
	}
}

// P12.1: each kind may be opened that is named; it stands at 0, and one names it.
func TestOpenKinds(t *testing.T) {
	x := made(t, len(kinds), 0)
	var want []api.File
	for i, kind := range kinds {
		open(t, x, kind, i+1, 0, i+1)
		want = append(want, api.File{ID: i + 1, Kind: kind, Obj: i + 1, Off: 0, Flags: 0, Refs: 1})
		is(t, x, "kinds", len(kinds)-i-1, i+2, want...)
	}
}

// P12.1: no other kind may.
func TestOpenWrongKinds(t *testing.T) {
	x := made(t, 3, 1)
	for kind := -300; kind <= 300; kind++ {
		if slices.Contains(kinds, kind) {
			continue
		}
		if id, e := x.Open(kind, 1, 0); id != 0 || e != api.EINVAL {
			t.Errorf("Open(%d, 1, 0): %d %d", kind, id, e)
		}
	}
	for _, kind := range wrongKinds {
		if id, e := x.Open(kind, 1, 0); id != 0 || e != api.EINVAL {
			t.Errorf("Open(%d, 1, 0): %d %d", kind, id, e)
		}
	}
	is(t, x, "behind wrong kinds", 2, 2, file(1))
}

// P12.1: things have numbers from 1 on, and no greatest one; several open files may be of one thing.
func TestOpenObj(t *testing.T) {
	x := made(t, 4, 0)
	for _, kind := range kinds {
		for _, obj := range []int{0, -1, -2, math.MinInt32, math.MinInt} {
			if id, e := x.Open(kind, obj, 0); id != 0 || e != api.EINVAL {
				t.Errorf("Open(%d, %d, 0): %d %d", kind, obj, id, e)
			}
		}
	}
	is(t, x, "behind wrong things", 4, 1)
	open(t, x, api.KFile, 1, 0, 1)
	open(t, x, api.KDir, math.MaxInt, 0, 2)
	open(t, x, api.KFile, 1, 0, 3)
	open(t, x, api.KSock, 1, 0, 4)
	is(t, x, "things", 0, 5,
		api.File{ID: 1, Kind: api.KFile, Obj: 1, Refs: 1},
		api.File{ID: 2, Kind: api.KDir, Obj: math.MaxInt, Refs: 1},
		api.File{ID: 3, Kind: api.KFile, Obj: 1, Refs: 1},
		api.File{ID: 4, Kind: api.KSock, Obj: 1, Refs: 1})
}

// P12.1: flags with each of the bits that stay are kept as they are, whatever the kind.
func TestOpenFlags(t *testing.T) {
	for _, kind := range kinds {
		x := made(t, len(rightFlags), 0)
		var want []api.File
		for i, flags := range rightFlags {
			open(t, x, kind, 7, flags, i+1)
			want = append(want, api.File{ID: i + 1, Kind: kind, Obj: 7, Flags: flags, Refs: 1})
		}
		is(t, x, "flags", 0, len(rightFlags)+1, want...)
	}
}

// P12.1: flags with both of the lowest two bits, or with one that does not stay, alone or beside others, are wrong.
func TestOpenWrongFlags(t *testing.T) {
	x := made(t, 2, 1)
	refuse := func(flags int) {
		t.Helper()
		if id, e := x.Open(api.KPipe, 1, flags); id != 0 || e != api.EINVAL {
			t.Errorf("Open(%d, 1, %#x): %d %d", api.KPipe, flags, id, e)
		}
	}
	for _, flags := range wrongFlags {
		refuse(flags)
	}
	for flags := -70; flags < 0x40100; flags++ {
		if !slices.Contains(rightFlags, flags) {
			refuse(flags)
		}
	}
	for bit := 4; bit < 64; bit++ {
		for _, flags := range rightFlags {
			refuse(flags | 1<<bit)
		}
	}
	is(t, x, "behind wrong flags", 1, 2, file(1))
}

// P12.1: what is wrong is told ahead of there being no room.
func TestOpenFirstError(t *testing.T) {
	x := made(t, 1, 1)
	for _, c := range []struct {
		kind, obj, flags int
		e                api.Errno
	}{
		{api.KFile, 1, 0, api.ENFILE}, {api.KProc, 1, 14, api.ENFILE}, {api.KSock, math.MaxInt, 2, api.ENFILE},
		{api.KSymlink, 1, 0, api.EINVAL}, {api.KBound, 1, 0, api.EINVAL}, {api.KFile, 0, 0, api.EINVAL},
		{api.KFile, 1, 3, api.EINVAL}, {api.KFile, 1, 16, api.EINVAL}, {0, 0, -1, api.EINVAL},
	} {
		if id, e := x.Open(c.kind, c.obj, c.flags); id != 0 || e != c.e {
			t.Errorf("Open(%d, %d, %d): %d %d, not %d", c.kind, c.obj, c.flags, id, e, c.e)
		}
		is(t, x, "behind an error", 0, 2, file(1))
	}
}

// P12.1, P12.3: a full table has room again behind a Drop by which one is gone, and not behind another one.
func TestRoomAgain(t *testing.T) {
	x := made(t, 2, 2)
	well(t, "Hold", x.Hold(1))
	drop(t, x, 1, false)
	if id, e := x.Open(api.KFile, 1, 0); id != 0 || e != api.ENFILE || x.Room() != 0 {
		t.Errorf("one still names it: %d %d, Room %d", id, e, x.Room())
	}
	drop(t, x, 1, true)
	is(t, x, "room again", 1, 3, file(2))
	open(t, x, api.KFile, 30, 0, 3)
	is(t, x, "full again", 0, 4, file(2), file(3))
}

// P12.1: numbers are never given again, whichever is gone, nor by a refused Open left out.
func TestNumbers(t *testing.T) {
	x := made(t, 3, 3)
	drop(t, x, 3, true)
	is(t, x, "the last is gone", 1, 4, file(1), file(2))
	open(t, x, api.KFile, 40, 0, 4)
	drop(t, x, 1, true)
	x.Open(api.KSymlink, 1, 0)
	open(t, x, api.KFile, 50, 0, 5)
	x.Open(api.KFile, 1, 0)
	is(t, x, "others came", 0, 6, file(2), file(4), file(5))
	for _, id := range []int{5, 2, 4} {
		drop(t, x, id, true)
	}
	is(t, x, "all are gone", 3, 6)
	open(t, x, api.KFile, 60, 0, 6)
	is(t, x, "one is new", 2, 7, file(6))

	one := made(t, 1, 0)
	for i := range 1000 {
		open(t, one, api.KFile, 10*(i+1), 0, i+1)
		is(t, one, "one by one", 0, i+2, file(i+1))
		drop(t, one, i+1, true)
	}
	is(t, one, "none", 1, 1001)
}

// P12.2: in a table with every count of open files, and with every second one, each is found, and none that is not there.
func TestGetAtEveryLength(t *testing.T) {
	for n := range 257 {
		x := made(t, 256, n)
		for id := -1; id <= n+2; id++ {
			f, ok := x.Get(id)
			if there := id >= 1 && id <= n; ok != there || there && f != file(id) || !there && f != (api.File{}) {
				t.Fatalf("of %d, Get(%d): %v %v", n, id, f, ok)
			}
		}
		for id := 1; id <= n; id += 2 {
			drop(t, x, id, true)
		}
		for id := -1; id <= n+2; id++ {
			f, ok := x.Get(id)
			if there := id >= 1 && id <= n && id%2 == 0; ok != there || there && f != file(id) || !there && f != (api.File{}) {
				t.Fatalf("of every second of %d, Get(%d): %v %v", n, id, f, ok)
			}
		}
	}
}

// P12.2: what Get tells is not the table's own.
func TestGetIsACopy(t *testing.T) {
	x := made(t, 2, 1)
	f, _ := x.Get(1)
	f.Off, f.Refs, f.Kind = 9, 9, 9
	is(t, x, "the copy is changed", 1, 2, file(1))
	well(t, "Seek", x.Seek(1, 5))
	if f.Off != 9 {
		t.Error("the table changes what it told", f)
	}
}

// P12.2: of numbers that there is no open file of, each call tells EBADF, ahead of all else, and changes nothing.
func TestNone(t *testing.T) {
	x := made(t, 5, 4)
	well(t, "Hold", x.Hold(1))
	drop(t, x, 3, true)
	first := api.File{ID: 1, Kind: api.KFile, Obj: 10, Refs: 2}
	for _, id := range []int{0, -1, 3, 5, 6, 256, 257, math.MaxInt32, math.MinInt32, math.MaxInt, math.MinInt} {
		none(t, x, id)
		is(t, x, fmt.Sprint("behind ", id), 2, 5, first, file(2), file(4))
	}
	empty := made(t, 1, 0)
	for _, id := range []int{0, -1, 1, 2} {
		none(t, empty, id)
		is(t, empty, fmt.Sprint("empty, behind ", id), 1, 1)
	}
}

// none says that there is no open file of that number.
func none(t *testing.T, x *Table, id int) {
	t.Helper()
	if f, ok := x.Get(id); f != (api.File{}) || ok {
		t.Errorf("Get(%d): %v %v", id, f, ok)
	}
	if e := x.Hold(id); e != api.EBADF {
		t.Errorf("Hold(%d): %d", id, e)
	}
	if gone, e := x.Drop(id); gone || e != api.EBADF {
		t.Errorf("Drop(%d): %v %d", id, gone, e)
	}
	for _, n := range []int{0, 1, -1, 16, math.MaxInt, math.MinInt} {
		if e := x.Seek(id, n); e != api.EBADF {
			t.Errorf("Seek(%d, %d): %d", id, n, e)
		}
		if e := x.SetFlags(id, n); e != api.EBADF {
			t.Errorf("SetFlags(%d, %d): %d", id, n, e)
		}
	}
}

// P12.2, P12.4: a Hold is one more, of that open file alone; a Drop is one less, and the last one tells that it is gone.
func TestHoldAndDrop(t *testing.T) {
	x := made(t, 3, 3)
	for refs := 2; refs <= 300; refs++ {
		well(t, "Hold", x.Hold(2))
		is(t, x, "held", 0, 4, file(1), api.File{ID: 2, Kind: api.KFile, Obj: 20, Refs: refs}, file(3))
	}
	for refs := 299; refs >= 1; refs-- {
		drop(t, x, 2, false)
		is(t, x, "dropped", 0, 4, file(1), api.File{ID: 2, Kind: api.KFile, Obj: 20, Refs: refs}, file(3))
	}
	drop(t, x, 2, true)
	is(t, x, "gone", 1, 4, file(1), file(3))
	none(t, x, 2)
}

// The chapter's example.
func TestExample(t *testing.T) {
	x := made(t, 1, 1)
	well(t, "Hold", x.Hold(1))
	drop(t, x, 1, false)
	drop(t, x, 1, true)
	is(t, x, "the example", 1, 2)
}

// P12.2: where it stands, and its flags, do not hang on who names it; a new one of the same thing begins anew.
func TestGoneAndOpenedAgain(t *testing.T) {
	x := made(t, 1, 0)
	open(t, x, api.KFile, 3, api.OBoth, 1)
	well(t, "Seek", x.Seek(1, 44))
	well(t, "SetFlags", x.SetFlags(1, api.OAppend))
	well(t, "Hold", x.Hold(1))
	drop(t, x, 1, false)
	is(t, x, "named by one again", 0, 2, api.File{ID: 1, Kind: api.KFile, Obj: 3, Off: 44, Flags: api.OBoth | api.OAppend, Refs: 1})
	drop(t, x, 1, true)
	open(t, x, api.KFile, 3, api.OBoth, 2)
	is(t, x, "opened again", 0, 3, api.File{ID: 2, Kind: api.KFile, Obj: 3, Flags: api.OBoth, Refs: 1})
}

// P12.2: Seek goes to any place from 0 on, to and fro, of whatever kind, and of that open file alone.
func TestSeek(t *testing.T) {
	for _, kind := range kinds {
		x := made(t, 3, 0)
		for id := 1; id <= 3; id++ {
			open(t, x, kind, 1, api.OWrite, id)
		}
		at := api.File{ID: 2, Kind: kind, Obj: 1, Flags: api.OWrite, Refs: 1}
		one, three := at, at
		one.ID, three.ID = 1, 3
		for _, off := range []int{0, 1, 7, 0, 65535, 65536, 65537, math.MaxInt32, math.MaxInt, 3} {
			well(t, "Seek", x.Seek(2, off))
			at.Off = off
			is(t, x, "Seek", 0, 4, one, at, three)
			for _, wrong := range []int{-1, -2, math.MinInt32, math.MinInt} {
				if e := x.Seek(2, wrong); e != api.EINVAL {
					t.Errorf("Seek(2, %d): %d", wrong, e)
				}
			}
			is(t, x, "Seek below 0", 0, 4, one, at, three)
		}
	}
}

// P12.2: SetFlags takes ONonblock and OAppend as they are in flags, whatever else is there, and leaves the way of access.
func TestSetFlags(t *testing.T) {
	asked := append(append([]int{}, rightFlags...), wrongFlags...)
	for flags := range 64 {
		asked = append(asked, flags, ^flags, flags<<8, flags<<16|api.ONonblock)
	}
	for _, had := range rightFlags {
		for _, flags := range asked {
			x := made(t, 3, 0)
			for id := 1; id <= 3; id++ {
				open(t, x, api.KSock, 5, had, id)
			}
			well(t, "Seek", x.Seek(2, 6))
			well(t, "SetFlags", x.SetFlags(2, flags))
			want := had % 4
			for _, bit := range []int{4, 8} {
				if flags&bit != 0 {
					want += bit
				}
			}
			is(t, x, fmt.Sprintf("%#x, SetFlags(%#x)", had, flags), 0, 4,
				api.File{ID: 1, Kind: api.KSock, Obj: 5, Flags: had, Refs: 1},
				api.File{ID: 2, Kind: api.KSock, Obj: 5, Off: 6, Flags: want, Refs: 1},
				api.File{ID: 3, Kind: api.KSock, Obj: 5, Flags: had, Refs: 1})
		}
	}
}

// P12.3: Dump tells open files by their numbers, behind Drops at the front, in the middle and at the end.
func TestDumpBehindDrops(t *testing.T) {
	const n = 6
	for set := range 1 << n {
		for _, back := range []bool{false, true} {
			x := made(t, n, n)
			var left []api.File
			for i := range n {
				if set>>i&1 == 0 {
					left = append(left, file(i+1))
				}
			}
			for i := range n {
				if back {
					i = n - 1 - i
				}
				if set>>i&1 == 1 {
					drop(t, x, i+1, true)
				}
			}
			is(t, x, fmt.Sprintf("without %06b", set), n-len(left), n+1, left...)
			next := n + 1
			for ; len(left) < n; next++ {
				open(t, x, api.KFile, 10*next, 0, next)
				left = append(left, file(next))
			}
			is(t, x, fmt.Sprintf("without %06b, full again", set), 0, next, left...)
		}
	}
}

// P12.3: what Dump tells is new memory, its spare room too, and stays as it is.
func TestDumpIsNew(t *testing.T) {
	x := made(t, 9, 5)
	want := []api.File{file(1), file(2), file(3), file(4), file(5)}
	a, b := x.Dump(), x.Dump()
	spoil := a[:cap(a)]
	for i := range spoil {
		spoil[i] = api.File{ID: 99}
	}
	is(t, x, "a dump is changed", 4, 6, want...)
	if !slices.Equal(b, want) {
		t.Error("two dumps share", b)
	}
	_ = append(b, api.File{ID: 98})
	open(t, x, api.KFile, 60, 0, 6)
	well(t, "Seek", x.Seek(1, 8))
	well(t, "Hold", x.Hold(2))
	drop(t, x, 3, true)
	if !slices.Equal(b, want) {
		t.Error("a dump is changed by the table", b)
	}
	_ = append(x.Dump(), api.File{ID: 97})
	open(t, x, api.KFile, 70, 0, 7)
	is(t, x, "dumps were longer", 3, 8,
		api.File{ID: 1, Kind: api.KFile, Obj: 10, Off: 8, Refs: 1},
		api.File{ID: 2, Kind: api.KFile, Obj: 20, Refs: 2},
		file(4), file(5), file(6), file(7))
}

// P12.1 to P12.3: of a nil table EINVAL, ahead of all else, none, and 0.
func TestNil(t *testing.T) {
	var x *Table
	for range 2 {
		is(t, x, "nil", 0, 0)
		for _, id := range []int{0, -1, 1, 2, math.MaxInt, math.MinInt} {
			if f, ok := x.Get(id); f != (api.File{}) || ok {
				t.Errorf("Get(%d): %v %v", id, f, ok)
			}
			if e := x.Hold(id); e != api.EINVAL {
				t.Errorf("Hold(%d): %d", id, e)
			}
			if gone, e := x.Drop(id); gone || e != api.EINVAL {
				t.Errorf("Drop(%d): %v %d", id, gone, e)
			}
			for _, n := range []int{0, 1, -1, 4, 16} {
				if e := x.Seek(id, n); e != api.EINVAL {
					t.Errorf("Seek(%d, %d): %d", id, n, e)
				}
				if e := x.SetFlags(id, n); e != api.EINVAL {
					t.Errorf("SetFlags(%d, %d): %d", id, n, e)
				}
				if got, e := x.Open(id, 1, n); got != 0 || e != api.EINVAL {
					t.Errorf("Open(%d, 1, %d): %d %d", id, n, got, e)
				}
			}
		}
	}
}

// The zero value is not made by New: what it answers is open, but no call of it panics.
func TestZeroValueDoesNotPanic(t *testing.T) {
	var x Table
	for range 2 {
		x.Open(api.KFile, 1, 0)
		for id := range 2 {
			x.Get(id)
			x.Hold(id)
			x.Seek(id, 1)
			x.SetFlags(id, 4)
			x.Drop(id)
			x.Drop(id)
		}
		x.Room()
		x.Numbers()
		x.Dump()
	}
}

// Two tables know nothing of one another.
func TestTwoTables(t *testing.T) {
	a, b := made(t, 2, 1), made(t, 3, 2)
	well(t, "Seek", a.Seek(1, 4))
	well(t, "Hold", b.Hold(1))
	drop(t, b, 2, true)
	open(t, a, api.KFile, 20, 0, 2)
	is(t, a, "the one", 0, 3, api.File{ID: 1, Kind: api.KFile, Obj: 10, Off: 4, Refs: 1}, file(2))
	is(t, b, "the other", 2, 3, api.File{ID: 1, Kind: api.KFile, Obj: 10, Refs: 2})
}
