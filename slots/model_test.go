package slots

import (
	"fmt"
	"math"
	"slices"
	"testing"

	"purlieu/api"
)

// desc is a descriptor in the model: its sets are written out, right by right and command by command.
type desc struct {
	file   int
	rights [32]bool
	all    bool
	cmds   map[int]int
	fcntls [4]bool
}

// plain is a table as the chapter says it.
type plain struct {
	most int
	at   map[int]desc
}

func newPlain(most int) *plain { return &plain{most: most, at: map[int]desc{}} }

// read answers what s is in the model, and whether it can be.
func read(s api.Slot) (desc, bool) {
	d := desc{file: s.File, rights: bitsOf(s.Rights), all: s.Ioctls.All, cmds: map[int]int{}}
	fcntls, ok := fcntlsOf(s.Fcntls)
	d.fcntls = fcntls
	for i, cmd := range s.Ioctls.L {
		if cmd < 0 || i > 0 && cmd <= s.Ioctls.L[i-1] {
			ok = false
		}
		d.cmds[cmd] = 1
	}
	if s.File < 1 || len(s.Ioctls.L) > 32 || s.Ioctls.All && len(s.Ioctls.L) > 0 {
		ok = false
	}
	return d, ok
}

// bitsOf answers which rights r are.
func bitsOf(r api.Rights) (l [32]bool) {
	for i := range l {
		l[i] = r>>i%2 == 1
	}
	return l
}

// fcntlsOf answers which of the bits 3 to 6 n has, and whether it has no other one.
func fcntlsOf(n int) (l [4]bool, ok bool) {
	sum := 0
	for i := range l {
		if l[i] = n>>(3+i)&1 == 1; l[i] {
			sum += 8 << i
		}
	}
	return l, sum == n
}

// show answers d as api has it.
func (d desc) show() api.Slot {
	s := api.Slot{File: d.file, Ioctls: api.List{All: d.all}}
	for i, has := range d.rights {
		if has {
			s.Rights += 1 << i
		}
	}
	for i, has := range d.fcntls {
		if has {
			s.Fcntls += 8 << i
		}
	}
	for cmd := range d.cmds {
		s.Ioctls.L = append(s.Ioctls.L, cmd)
	}
	slices.Sort(s.Ioctls.L)
	return s
}

func (p *plain) free(from int) (int, api.Errno) {
	if from < 0 || from > p.most-1 {
		return 0, api.EINVAL
	}
	for fd := range p.most {
		if _, there := p.at[fd]; !there && fd >= from {
			return fd, api.OK
		}
	}
	return 0, api.EMFILE
}

func (p *plain) put(from int, s api.Slot) (int, api.Errno) {
	d, ok := read(s)
	if !ok {
		return 0, api.EINVAL
	}
	fd, e := p.free(from)
	if e == api.OK {
		p.at[fd] = d
	}
	return fd, e
}

func (p *plain) set(fd int, s api.Slot) (api.Slot, bool, api.Errno) {
	d, ok := read(s)
	if !ok {
		return api.Slot{}, false, api.EINVAL
	}
	if fd < 0 || fd > p.most-1 {
		return api.Slot{}, false, api.EBADF
	}
	was, there := p.at[fd]
	p.at[fd] = d
	return was.show(), there, api.OK
}

func (p *plain) take(fd int) (api.Slot, api.Errno) {
	d, there := p.at[fd]
	if !there {
		return api.Slot{}, api.EBADF
	}
	delete(p.at, fd)
	return d.show(), api.OK
}

func (p *plain) limit(fd int, r api.Rights) api.Errno {
	d, there := p.at[fd]
	if !there {
		return api.EBADF
	}
	asked := bitsOf(r)
	for i := range asked {
		if asked[i] && !d.rights[i] {
			return api.ENOTCAPABLE
		}
	}
	d.rights = asked
	if !asked[28] {
		d.all, d.cmds = false, nil
	}
	if !asked[9] {
		d.fcntls = [4]bool{}
	}
	p.at[fd] = d
	return api.OK
}

func (p *plain) limitIoctls(fd int, l []int) api.Errno {
	d, there := p.at[fd]
	if !there {
		return api.EBADF
	}
	asked := map[int]int{}
	for _, cmd := range l {
		if cmd < 0 {
			return api.EINVAL
		}
		asked[cmd] = 1
	}
	if len(asked) > 32 {
		return api.EINVAL
	}
	for cmd := range asked {
		if d.cmds[cmd] == 0 && !d.all {
			return api.ENOTCAPABLE
		}
	}
	d.all, d.cmds = false, asked
	p.at[fd] = d
	return api.OK
}

func (p *plain) limitFcntls(fd, mask int) api.Errno {
	d, there := p.at[fd]
	if !there {
		return api.EBADF
	}
	asked, ok := fcntlsOf(mask)
	if !ok {
		return api.EINVAL
	}
	for i := range asked {
		if asked[i] && !d.fcntls[i] {
			return api.ENOTCAPABLE
		}
	}
	d.fcntls = asked
	p.at[fd] = d
	return api.OK
}

func (p *plain) clone() *plain {
	c := newPlain(p.most)
	for fd, d := range p.at {
		c.at[fd], _ = read(d.show())
	}
	return c
}

// step is a call that changes, or would change, a table: 'p'ut, 's'et, 't'ake, 'l'imit, limit 'i'octls, limit 'f'cntls.
type step struct {
	what byte
	fd   int
	s    api.Slot
	r    api.Rights
	l    []int
	mask int
}

func (s step) String() string {
	return fmt.Sprintf("%c(%d) of %v, %#x, %v, %#x", s.what, s.fd, s.s, s.r, s.l, s.mask)
}

// answer is what a step tells.
type answer struct {
	fd  int
	was api.Slot
	ok  bool
	e   api.Errno
}

func (s step) onTable(x *Table) (a answer) {
	switch s.what {
	case 'p':
		a.fd, a.e = x.Put(s.fd, s.s)
	case 's':
		a.was, a.ok, a.e = x.Set(s.fd, s.s)
	case 't':
		a.was, a.e = x.Take(s.fd)
	case 'l':
		a.e = x.Limit(s.fd, s.r)
	case 'i':
		a.e = x.LimitIoctls(s.fd, s.l)
	case 'f':
		a.e = x.LimitFcntls(s.fd, s.mask)
	}
	return a
}

func (s step) onPlain(p *plain) (a answer) {
	switch s.what {
	case 'p':
		a.fd, a.e = p.put(s.fd, s.s)
	case 's':
		a.was, a.ok, a.e = p.set(s.fd, s.s)
	case 't':
		a.was, a.e = p.take(s.fd)
	case 'l':
		a.e = p.limit(s.fd, s.r)
	case 'i':
		a.e = p.limitIoctls(s.fd, s.l)
	case 'f':
		a.e = p.limitFcntls(s.fd, s.mask)
	}
	return a
}

// same makes a step on both, and tells whether both answer alike and have the same then; with an error, nothing may be told beside it and the table must be as it was; a limit must leave less.
func same(x *Table, p *plain, s step) error {
	before := whole(x, p.most)
	got, want := s.onTable(x), s.onPlain(p)
	if got.fd != want.fd || !alike(got.was, want.was) || got.ok != want.ok || got.e != want.e {
		return fmt.Errorf("%v: %v, not %v", s, got, want)
	}
	now := whole(x, p.most)
	if got.e != api.OK && (got.fd != 0 || got.ok || !empty(got.was) || !slices.EqualFunc(before, now, alike)) {
		return fmt.Errorf("%v: %v changes %v to %v", s, got, before, now)
	}
	if got.e == api.OK && (s.what == 'l' || s.what == 'i' || s.what == 'f') && !within(now[s.fd], before[s.fd]) {
		return fmt.Errorf("%v: %v is not within %v", s, now[s.fd], before[s.fd])
	}
	return agree(x, p)
}

// whole answers what Get tells of all numbers of x, none where there is none.
func whole(x *Table, most int) []api.Slot {
	all := make([]api.Slot, most)
	for fd := range all {
		all[fd], _ = x.Get(fd, 0)
	}
	return all
}

// within is P13.5, member by member.
func within(a, b api.Slot) bool {
	da, can := read(a)
	db, could := read(b)
	ok := can && could && da.file == db.file && (!da.all || db.all)
	for i := range da.rights {
		ok = ok && (!da.rights[i] || db.rights[i])
	}
	for i := range da.fcntls {
		ok = ok && (!da.fcntls[i] || db.fcntls[i])
	}
	for cmd := range da.cmds {
		ok = ok && (db.all || db.cmds[cmd] == 1)
	}
	return ok
}

// agree tells whether both have the same, by all calls that tell it.
func agree(x *Table, p *plain) error {
	var all []int
	for fd := -1; fd <= p.most; fd++ {
		d, there := p.at[fd]
		want, e := d.show(), api.OK
		if there {
			all = append(all, fd)
		} else {
			e = api.EBADF
		}
		if s, err := x.Get(fd, want.Rights); !alike(s, want) || err != e {
			return fmt.Errorf("Get(%d): %v %d, not %v %d", fd, s, err, want, e)
		}
		if there && want.Rights != api.CapAll {
			if s, err := x.Get(fd, api.CapAll); !empty(s) || err != api.ENOTCAPABLE {
				return fmt.Errorf("Get(%d) of all: %v %d", fd, s, err)
			}
		}
		free, e := p.free(fd)
		if got, err := x.Free(fd); got != free || err != e {
			return fmt.Errorf("Free(%d): %d %d, not %d %d", fd, got, err, free, e)
		}
	}
	if got := x.All(); !slices.Equal(got, all) || x.Room() != p.most-len(all) {
		return fmt.Errorf("All %v, Room %d, not %v, %d", got, x.Room(), all, p.most-len(all))
	}
	return nil
}

// P13.1 to P13.5: every row of four steps out of some, on tables with 1 to 3 numbers, comes to what the plain one comes to.
func TestRowsAgainstPlain(t *testing.T) {
	steps := []step{
		{what: 'p', fd: 0, s: full(1)}, {what: 'p', fd: 1, s: slot(2, api.CapRead|api.CapIoctl, 24, 1, 2)}, {what: 'p', fd: 0, s: full(0)},
		{what: 's', fd: 0, s: slot(3, api.CapFcntl|api.CapIoctl, 8, 2, 5)}, {what: 's', fd: 1, s: full(4)}, {what: 's', fd: 2, s: slot(1, 0, 1)},
		{what: 't', fd: 0}, {what: 't', fd: 1},
		{what: 'l', fd: 0, r: api.CapRead | api.CapIoctl}, {what: 'l', fd: 0, r: api.CapFcntl}, {what: 'l', fd: 1, r: api.CapAll},
		{what: 'i', fd: 0, l: []int{2, 1, 2}}, {what: 'i', fd: 1, l: []int{2}}, {what: 'i', fd: 0, l: []int{-1}},
		{what: 'f', fd: 0, mask: 8}, {what: 'f', fd: 1, mask: 0}, {what: 'f', fd: 0, mask: 9},
	}
	n := len(steps)
	for most := 1; most <= 3; most++ {
		for row := range n * n * n * n {
			x, p := New(most), newPlain(most)
			for k, rest := 0, row; k < 4; k, rest = k+1, rest/n {
				if e := same(x, p, steps[rest%n]); e != nil {
					t.Fatalf("of %d, row %d, step %d: %v", most, row, k, e)
				}
			}
		}
	}
}

// dice answers a roller of numbers below n, always the same row of them.
func dice(seed uint64) func(n int) int {
	return func(n int) int {
		seed = seed*6364136223846793005 + 1442695040888963407
		return int(seed >> 33 % uint64(n))
	}
}

// rollRights answers rights such as come: mostly some of r, with those among them that whitelists hang on.
func rollRights(dice func(n int) int, r api.Rights) api.Rights {
	switch dice(6) {
	case 0:
		return r
	case 1:
		return r | 1<<dice(32)
	case 2:
		return r & (api.CapIoctl | api.CapFcntl | api.Rights(dice(1<<30)))
	case 3:
		return r & (api.CapFcntl | api.Rights(dice(1<<30))&^api.CapIoctl)
	}
	return r &^ (1 << dice(32))
}

// rollList answers commands such as come: mostly some of those that a has, in any order, some of them twice.
func rollList(dice func(n int) int, a api.List) []int {
	from := a.L
	if a.All {
		from = rising(40)
	}
	var l []int
	for range dice(len(from) + 3) {
		if len(from) > 0 {
			l = append(l, from[dice(len(from))])
		}
	}
	switch dice(8) {
	case 0:
		l = append(l, dice(40))
	case 1:
		l = append(l, -1-dice(3))
	case 2:
		l = append(l, from...)
	case 3:
		l = rising(30 + dice(5))
	}
	return l
}

// rollSlot answers a descriptor such as comes, some of which can't be.
func rollSlot(dice func(n int) int) api.Slot {
	s := full(1 + dice(9))
	if dice(3) > 0 {
		s.Rights = rollRights(dice, api.Rights(dice(1<<31))|api.CapIoctl)
		s.Fcntls = 8 * dice(16)
		l := rollList(dice, api.List{All: true})
		slices.Sort(l)
		s.Ioctls = api.List{L: slices.Compact(l)}
	}
	switch dice(12) {
	case 0:
		s.File = -dice(2)
	case 1:
		s.Ioctls = wrongLists[dice(len(wrongLists))]
	case 2:
		s.Fcntls = wrongFcntls[dice(len(wrongFcntls))]
	}
	return s
}

// roll answers a step such as comes, mostly of what is there, with edges and wrong things among it.
func roll(dice func(n int) int, x *Table, most int, fills bool) step {
	edges := []int{0, -1, most - 1, most, most + 1, dice(most), math.MaxInt, math.MinInt}
	s := step{what: "pstlif"[dice(6)], fd: edges[dice(len(edges))], s: rollSlot(dice)}
	if all := x.All(); len(all) > 0 && dice(4) > 0 {
		s.fd = all[dice(len(all))]
	}
	if dice(3) == 0 {
		s.what = 't'
		if fills {
			s.what, s.fd = 'p', dice(2)*dice(most)
		}
	}
	has, _ := x.Get(s.fd, 0)
	s.r, s.l, s.mask = rollRights(dice, has.Rights), rollList(dice, has.Ioctls), has.Fcntls&(8*dice(16))
	switch dice(6) {
	case 0:
		s.mask = wrongFcntls[dice(len(wrongFcntls))]
	case 1:
		s.mask = 8 * dice(16)
	}
	return s
}

// P13.1 to P13.5: long rows of steps, which fill tables of several sizes and empty them, come to what the plain ones come to; some go on with a clone, and what was cloned stays as it was.
func TestLongRowsAgainstPlain(t *testing.T) {
	for _, most := range []int{1, 2, 3, 7, 32, 63, 64} {
		dice := dice(uint64(most))
		x, p := New(most), newPlain(most)
		left, leftPlain := x.Clone(), p.clone()
		full, emptied, told := false, false, map[string]int{}
		length := 6*most + 200
		for i := range 6 * length {
			s := roll(dice, x, most, i/length%2 == 0)
			told[fmt.Sprintf("%c %d", s.what, s.onTable(x.Clone()).e)]++
			if e := same(x, p, s); e != nil {
				t.Fatalf("of %d, step %d: %v", most, i, e)
			}
			full = full || x.Room() == 0
			emptied = emptied || full && x.Room() > most/2
			if dice(20) == 0 {
				x, left = x.Clone(), x
				p, leftPlain = p.clone(), p
				if dice(2) == 0 {
					x, left, p, leftPlain = left, x, leftPlain, p
				}
			}
			if e := agree(left, leftPlain); e != nil {
				t.Fatalf("of %d, step %d, what was left: %v", most, i, e)
			}
		}
		if !full || !emptied {
			t.Errorf("of %d: the row fills it %v, and empties it %v", most, full, emptied)
		}
		for _, kind := range []string{"p 0", "p 22", "s 0", "s 9", "s 22", "t 0", "t 9", "l 0", "l 9", "l 93", "i 0", "i 9", "i 22", "i 93", "f 0", "f 9", "f 22", "f 93"} {
			if told[kind] == 0 {
				t.Errorf("of %d: no step was told %s", most, kind)
			}
		}
	}
}

// P13.5: of all that can be, each limit leaves what is within it, one behind the other, down to none.
func TestOnlyLess(t *testing.T) {
	dice := dice(13)
	for _, s := range canBe() {
		changed := 0
		for range 20 {
			x, was := made(t, 1, heldAll{0: s}), s
			for range 40 {
				var e api.Errno
				switch dice(3) {
				case 0:
					e = x.Limit(0, rollRights(dice, was.Rights))
				case 1:
					e = x.LimitIoctls(0, rollList(dice, was.Ioctls))
				case 2:
					e = x.LimitFcntls(0, 8*dice(16))
				}
				now, _ := x.Get(0, 0)
				if !within(now, was) || !within(now, s) || e != api.OK && !alike(now, was) {
					t.Fatalf("%d: %v behind %v, of %v", e, now, was, s)
				}
				if !alike(now, was) {
					changed++
				}
				was = now
			}
			tells(t, "Limit to none", x.Limit(0, 0), api.OK)
			is(t, x, "limited to none", 1, heldAll{0: slot(s.File, 0, 0)})
		}
		if changed == 0 && s.Rights != 0 {
			t.Errorf("nothing was limited of %v", s)
		}
	}
}
