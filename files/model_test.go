package files

import (
	"fmt"
	"math"
	"slices"
	"testing"

	"purlieu/api"
)

// opened is a file that was opened once, in the model: how it was, what was told OK of it, and which of the bits that may change it has.
type opened struct {
	kind, obj, access, off int
	nonblock, appends      bool
	holds, drops           int
}

// refs is P12.4, word by word.
func (f *opened) refs() int { return 1 + f.holds - f.drops }

// plain is a table as the chapter says it: all that was ever opened, in its order, with what is gone among it.
type plain struct {
	most int
	all  []*opened
}

// bit tells whether a number has the bit of that value.
func bit(n, value int) bool { return n&value != 0 }

func (p *plain) find(id int) *opened {
	for i, f := range p.all {
		if i+1 == id && f.refs() > 0 {
			return f
		}
	}
	return nil
}

func (p *plain) dump() []api.File {
	var files []api.File
	for i, f := range p.all {
		if f.refs() == 0 {
			continue
		}
		flags := f.access
		if f.nonblock {
			flags += 4
		}
		if f.appends {
			flags += 8
		}
		files = append(files, api.File{ID: i + 1, Kind: f.kind, Obj: f.obj, Off: f.off, Flags: flags, Refs: f.refs()})
	}
	return files
}

func (p *plain) room() int { return p.most - len(p.dump()) }

func (p *plain) open(kind, obj, flags int) (int, api.Errno) {
	if kind < 1 || kind > 7 || kind == 3 || kind == 4 {
		return 0, api.EINVAL
	}
	if obj <= 0 || flags < 0 || flags > 15 || flags%4 == 3 {
		return 0, api.EINVAL
	}
	if p.room() == 0 {
		return 0, api.ENFILE
	}
	p.all = append(p.all, &opened{kind: kind, obj: obj, access: flags % 4, nonblock: bit(flags, 4), appends: bit(flags, 8)})
	return len(p.all), api.OK
}

func (p *plain) hold(id int) api.Errno {
	f := p.find(id)
	if f == nil {
		return api.EBADF
	}
	f.holds++
	return api.OK
}

func (p *plain) drop(id int) (bool, api.Errno) {
	f := p.find(id)
	if f == nil {
		return false, api.EBADF
	}
	f.drops++
	return p.find(id) == nil, api.OK
}

func (p *plain) seek(id, off int) api.Errno {
	f := p.find(id)
	if f == nil {
		return api.EBADF
	}
	if off < 0 {
		return api.EINVAL
	}
	f.off = off
	return api.OK
}

func (p *plain) setFlags(id, flags int) api.Errno {
	f := p.find(id)
	if f == nil {
		return api.EBADF
	}
	f.nonblock, f.appends = bit(flags, 4), bit(flags, 8)
	return api.OK
}

// step is a call that changes, or would change, a table: 'o'pen, 'h'old, 'd'rop, 's'eek, set 'f'lags.
type step struct {
	what    byte
	a, b, c int
}

func (s step) String() string { return fmt.Sprintf("%c(%d, %d, %d)", s.what, s.a, s.b, s.c) }

// answer is what a step tells.
type answer struct {
	id   int
	gone bool
	e    api.Errno
}

func (s step) onTable(x *Table) (a answer) {
	switch s.what {
	case 'o':
		a.id, a.e = x.Open(s.a, s.b, s.c)
	case 'h':
		a.e = x.Hold(s.a)
	case 'd':
		a.gone, a.e = x.Drop(s.a)
	case 's':
		a.e = x.Seek(s.a, s.b)
	case 'f':
		a.e = x.SetFlags(s.a, s.b)
	}
	return a
}

func (s step) onPlain(p *plain) (a answer) {
	switch s.what {
	case 'o':
		a.id, a.e = p.open(s.a, s.b, s.c)
	case 'h':
		a.e = p.hold(s.a)
	case 'd':
		a.gone, a.e = p.drop(s.a)
	case 's':
		a.e = p.seek(s.a, s.b)
	case 'f':
		a.e = p.setFlags(s.a, s.b)
	}
	return a
}

// same makes a step on both, and tells whether both answer alike and have the same then; with an error the table must be as it was.
func same(x *Table, p *plain, s step) error {
	before, next := x.Dump(), x.Numbers()
	got, want := s.onTable(x), s.onPlain(p)
	if got != want {
		return fmt.Errorf("%v: %v, not %v", s, got, want)
	}
	now := x.Dump()
	if got.e != api.OK && (!slices.Equal(now, before) || x.Numbers() != next) {
		return fmt.Errorf("%v: %v changes %v to %v", s, got, before, now)
	}
	if all := p.dump(); !slices.Equal(now, all) {
		return fmt.Errorf("%v: %v, not %v", s, now, all)
	}
	if x.Room() != p.room() || x.Numbers() != len(p.all)+1 {
		return fmt.Errorf("%v: Room %d, Numbers %d, not %d, %d", s, x.Room(), x.Numbers(), p.room(), len(p.all)+1)
	}
	return asks(x, now)
}

// asks tells whether Get says what Dump says, of all numbers that may be there, and of those beside them.
func asks(x *Table, all []api.File) error {
	at := 0
	for id := -1; id <= x.Numbers()+1; id++ {
		var want api.File
		there := at < len(all) && all[at].ID == id
		if there {
			want = all[at]
			at++
		}
		if f, ok := x.Get(id); f != want || ok != there {
			return fmt.Errorf("Get(%d): %v %v, not %v", id, f, ok, want)
		}
	}
	return nil
}

// P12.1 to P12.4: every row of four steps out of some, on tables with room for 1 to 3, comes to what the plain one comes to.
func TestRowsAgainstPlain(t *testing.T) {
	steps := []step{
		{'o', api.KFile, 1, 0}, {'o', api.KPipe, 2, 13}, {'o', api.KSymlink, 1, 0}, {'o', api.KDir, 0, 2}, {'o', api.KSock, 3, 3},
		{'h', 1, 0, 0}, {'h', 2, 0, 0}, {'h', 0, 0, 0},
		{'d', 1, 0, 0}, {'d', 2, 0, 0}, {'d', 3, 0, 0},
		{'s', 1, 5, 0}, {'s', 2, -1, 0}, {'s', 2, 9, 0},
		{'f', 1, 8, 0}, {'f', 2, -13, 0},
	}
	n := len(steps)
	for most := 1; most <= 3; most++ {
		for row := range n * n * n * n {
			x, p := made(t, most, 0), &plain{most: most}
			for k, rest := 0, row; k < 4; k, rest = k+1, rest/n {
				if e := same(x, p, steps[rest%n]); e != nil {
					t.Fatalf("room for %d, row %d, step %d: %v", most, row, k, e)
				}
			}
		}
	}
}

// P12.1 to P12.4: every row of three steps from a table in which some are gone, named by several, and one is the last.
func TestRowsFromTheMiddle(t *testing.T) {
	scene := []step{
		{'o', api.KFile, 4, 9}, {'o', api.KDir, 1, 0}, {'o', api.KSock, 2, 6}, {'o', api.KProc, 8, 0}, {'o', api.KPipe, 3, 5},
		{'h', 1, 0, 0}, {'d', 2, 0, 0}, {'s', 3, 12, 0}, {'h', 5, 0, 0}, {'h', 5, 0, 0}, {'d', 4, 0, 0},
	}
	var steps []step
	for id := range 8 {
		steps = append(steps, step{'h', id, 0, 0}, step{'d', id, 0, 0}, step{'s', id, 3, 0}, step{'f', id, 7, 0})
	}
	steps = append(steps, step{'o', api.KProc, 2, 8}, step{'o', api.KBound, 2, 8})
	for row := range len(steps) * len(steps) * len(steps) {
		x, p := made(t, 5, 0), &plain{most: 5}
		for _, s := range scene {
			if e := same(x, p, s); e != nil {
				t.Fatal(e)
			}
		}
		for k, rest := 0, row; k < 3; k, rest = k+1, rest/len(steps) {
			if e := same(x, p, steps[rest%len(steps)]); e != nil {
				t.Fatalf("row %d, step %d: %v", row, k, e)
			}
		}
	}
}

// dice answers a roller of numbers below n, always the same row of them.
func dice(seed uint64) func(n int) int {
	return func(n int) int {
		seed = seed*6364136223846793005 + 1442695040888963407
		return int(seed >> 33 % uint64(n))
	}
}

// roll answers a step such as comes, mostly of what is there, with edges and wrong things among it.
func roll(dice func(n int) int, all []api.File, next int, fills bool) step {
	pick := func(l ...int) int { return l[dice(len(l))] }
	id := pick(0, -1, next, next-1, 1, dice(next+2), math.MaxInt, math.MinInt)
	if len(all) > 0 && dice(4) > 0 {
		id = all[dice(len(all))].ID
	}
	what := "ohdsf"[dice(5)]
	if dice(3) == 0 {
		what = 'd'
		if fills {
			what = 'o'
		}
	}
	switch what {
	case 'o':
		s := step{'o', kinds[dice(len(kinds))], 1 + dice(9), rightFlags[dice(len(rightFlags))]}
		if dice(6) == 0 {
			s.a = wrongKinds[dice(len(wrongKinds))]
		}
		if dice(6) == 0 {
			s.b = pick(0, -1, 1, math.MaxInt)
		}
		if dice(6) == 0 {
			s.c = wrongFlags[dice(len(wrongFlags))]
		}
		return s
	case 's':
		return step{'s', id, pick(0, 1, -1, dice(70000), math.MaxInt, math.MinInt), 0}
	case 'f':
		return step{'f', id, pick(rightFlags[dice(len(rightFlags))], wrongFlags[dice(len(wrongFlags))]), 0}
	}
	return step{what, id, 0, 0}
}

// P12.1 to P12.4: long rows of steps, which fill tables of several sizes and empty them, come to what the plain ones come to.
func TestLongRowsAgainstPlain(t *testing.T) {
	for _, most := range []int{1, 2, 3, 7, 64, 255, 256} {
		dice := dice(uint64(most))
		x, p := made(t, most, 0), &plain{most: most}
		full, emptied, left, length := 0, 0, 0, 5*most+20
		for i := range 6 * length {
			if e := same(x, p, roll(dice, x.Dump(), x.Numbers(), i/length%2 == 0)); e != nil {
				t.Fatalf("room for %d, step %d: %v", most, i, e)
			}
			if now := x.Room(); now == 0 && left > 0 {
				full++
			} else if now > most/2 && left <= most/2 && full > 0 {
				emptied++
			}
			left = x.Room()
		}
		if full == 0 || emptied == 0 {
			t.Errorf("room for %d: the row fills it %d times, and empties it %d times", most, full, emptied)
		}
	}
}

// P12.4: how many name an open file is 1, and what Holds, less what Drops of it were told OK, counted apart for each of many.
func TestCounted(t *testing.T) {
	dice := dice(12)
	x := made(t, 40, 40)
	var holds, drops [43]int
	gone := 0
	for i := range 20000 {
		id := dice(43)
		if dice(100) < 49 {
			if x.Hold(id) == api.OK {
				holds[id]++
			}
		} else if last, e := x.Drop(id); e == api.OK {
			drops[id]++
			if last != (1+holds[id]-drops[id] == 0) {
				t.Fatalf("step %d: Drop(%d): %v behind %d Holds and %d Drops", i, id, last, holds[id], drops[id])
			}
			if last {
				gone++
			}
		}
		want := 0
		if id >= 1 && id <= 40 {
			want = 1 + holds[id] - drops[id]
		}
		if f, ok := x.Get(id); f.Refs != want || ok != (want > 0) {
			t.Fatalf("step %d: %v %v behind %d Holds and %d Drops", i, f, ok, holds[id], drops[id])
		}
	}
	if gone == 0 || x.Room() != gone || holds[0]+holds[41]+holds[42]+drops[0]+drops[41]+drops[42] != 0 {
		t.Error(gone, x.Room(), holds, drops)
	}
}
