package world

import (
	"fmt"
	"slices"
	"testing"

	"purlieu/api"
	"purlieu/memfs"
	"purlieu/procs"
	tables "purlieu/slots"
	"purlieu/socks"
	"purlieu/white"
)

// opened is an open file in the model: how many name it is not kept, but counted.
type opened struct {
	id, kind, obj, flags int
	holds                bool
}

// tube is a pipe in the model.
type tube struct {
	reads, writes bool
	b             string
}

// place is where a descriptor lies.
type place struct{ pid, fd int }

// plain is a world as the chapter says it. Files, sockets and processes are tables of the layers below, but what goes with what is not called forth by what lets it go: settle looks behind each step for what nobody names, and who holds what.
type plain struct {
	l     api.Limits
	fs    *memfs.FS
	socks *socks.Store
	procs *procs.Table
	fds   map[place]api.Slot
	hand  []api.Passed // what is passed, and neither sent nor given yet
	files []opened
	last  int
	tubes []*tube // all that ever were
	parks map[int]api.Req
}

func newPlain(l api.Limits) *plain {
	p := &plain{
		l:     l,
		fs:    memfs.New(l.Inodes, l.Blocks),
		socks: socks.New(l.Sock),
		procs: procs.New(l.Procs),
		fds:   map[place]api.Slot{},
		parks: map[int]api.Req{},
	}
	p.settle()
	return p
}

func (p *plain) FS() *memfs.FS        { return p.fs }
func (p *plain) Socks() *socks.Store  { return p.socks }
func (p *plain) Procs() *procs.Table  { return p.procs }
func (p *plain) sent(l []api.Passed)  { p.away(l) }
func (p *plain) comes(l []api.Passed) { p.hand = append(p.hand, l...) }

// away takes each of l out of the hand once.
func (p *plain) away(l []api.Passed) {
	for _, x := range l {
		if at := slices.IndexFunc(p.hand, func(y api.Passed) bool { return x.File == y.File }); at >= 0 {
			p.hand = slices.Delete(p.hand, at, at+1)
		}
	}
}

// names counts the descriptors that name an open file, and what is passed and waits.
func (p *plain) names(id int) int {
	n := 0
	for _, s := range p.fds {
		if s.File == id {
			n++
		}
	}
	count := func(l []api.Passed) {
		for _, x := range l {
			if x.File == id {
				n++
			}
		}
	}
	count(p.hand)
	for _, s := range p.socks.Dump() {
		for _, part := range s.Parts {
			count(part.L)
		}
	}
	return n
}

// settle lets all go that nobody names, until there is nothing like that, and then gives each inode as many holds as there are to be.
func (p *plain) settle() {
	for p.letsGo() {
	}
	for _, x := range p.fs.Dump() {
		want := p.owed(x.Ino)
		for ; x.Holds < want; x.Holds++ {
			p.fs.Hold(x.Ino)
		}
		for ; x.Holds > want; x.Holds-- {
			p.fs.Release(x.Ino)
		}
	}
}

// owed counts the open files of an inode, the processes in it, and one of the root.
func (p *plain) owed(ino int) int {
	n := 0
	if ino == 1 {
		n++
	}
	for _, f := range p.files {
		if f.holds && f.obj == ino {
			n++
		}
	}
	for _, q := range p.procs.Dump() {
		if q.Cwd == ino {
			n++
		}
	}
	return n
}

// letsGo lets the last open file go that nobody names, and tells whether there is one. (The order plays no part.)
func (p *plain) letsGo() bool {
	for i := len(p.files) - 1; i >= 0; i-- {
		f := p.files[i]
		if p.names(f.id) > 0 {
			continue
		}
		p.files = slices.Delete(p.files, i, i+1)
		switch f.kind {
		case api.KPipe:
			if f.obj > len(p.tubes) {
				break
			}
			if x := p.tubes[f.obj-1]; f.flags&api.OWrite > 0 {
				x.writes = false
			} else {
				x.reads, x.b = false, ""
			}
		case api.KSock:
			p.socks.Close(f.obj)
		case api.KProc:
			p.end(f.obj, 137)
			p.procs.Reap(f.obj)
		}
		return true
	}
	return false
}

// free answers the least free descriptor from there on, or -1.
func (p *plain) free(pid, from int) int {
	for fd := from; fd < p.l.Fds; fd++ {
		if _, there := p.fds[place{pid, fd}]; !there {
			return fd
		}
	}
	return -1
}

func (p *plain) Fits(pid, fds, files int) api.Errno {
	if !p.procs.Lives(pid) {
		return api.ESRCH
	}
	room := 0
	for fd := range p.l.Fds {
		if _, there := p.fds[place{pid, fd}]; !there {
			room++
		}
	}
	if room < fds {
		return api.EMFILE
	}
	if p.l.Files-len(p.files) < files {
		return api.ENFILE
	}
	return api.OK
}

func (p *plain) Open(pid, kind, obj, flags int, like api.Slot) int {
	flags &= 15
	wrong := kind != api.KFile && kind != api.KDir && kind != api.KPipe && kind != api.KSock && kind != api.KProc
	wrong = wrong || obj < 1 || flags&3 == 3 || !white.Can(like.Ioctls) || like.Fcntls&^api.FcntlAll != 0
	if p.Fits(pid, 1, 1) != api.OK || wrong {
		return -1
	}
	p.last++
	_, e := p.fs.Stat(obj)
	p.files = append(p.files, opened{p.last, kind, obj, flags, (kind == api.KFile || kind == api.KDir) && e == api.OK})
	fd := p.free(pid, 0)
	like.File = p.last
	p.fds[place{pid, fd}] = like
	return fd
}

func (p *plain) Pipe() int {
	p.tubes = append(p.tubes, &tube{reads: true, writes: true})
	return len(p.tubes)
}

// fill lays a byte into a pipe, if it is there and there is room.
func (p *plain) fill(id int) {
	if id < 1 || id > len(p.tubes) {
		return
	}
	if x := p.tubes[id-1]; (x.reads || x.writes) && len(x.b) < p.l.Pipe {
		x.b += "x"
	}
}

// get answers a descriptor, or why there is none.
func (p *plain) get(pid, fd int) (api.Slot, api.Errno) {
	s, there := p.fds[place{pid, fd}]
	switch {
	case !p.procs.Lives(pid):
		return api.Slot{}, api.ESRCH
	case !there:
		return api.Slot{}, api.EBADF
	}
	return s, api.OK
}

func (p *plain) Dup(pid, fd, from int) (int, api.Errno) {
	s, e := p.get(pid, fd)
	if e != api.OK {
		return 0, e
	}
	if from < 0 || from >= p.l.Fds {
		return 0, api.EINVAL
	}
	to := p.free(pid, from)
	if to < 0 {
		return 0, api.EMFILE
	}
	p.fds[place{pid, to}] = s
	return to, api.OK
}

func (p *plain) Onto(pid, fd, to int) api.Errno {
	s, e := p.get(pid, fd)
	if e != api.OK {
		return e
	}
	if to < 0 || to >= p.l.Fds {
		return api.EBADF
	}
	p.fds[place{pid, to}] = s
	return api.OK
}

func (p *plain) Close(pid, fd int) api.Errno {
	if _, e := p.get(pid, fd); e != api.OK {
		return e
	}
	delete(p.fds, place{pid, fd})
	return api.OK
}

func (p *plain) Pass(pid, fd int) (api.Passed, api.Errno) {
	s, e := p.get(pid, fd)
	if e != api.OK {
		return api.Passed{}, e
	}
	p.hand = append(p.hand, api.Passed(s))
	return api.Passed(s), api.OK
}

func (p *plain) Give(pid int, x api.Passed) int {
	if p.Fits(pid, 1, 0) != api.OK {
		return -1
	}
	fd := p.free(pid, 0)
	p.fds[place{pid, fd}] = api.Slot(x)
	p.away([]api.Passed{x})
	return fd
}

func (p *plain) Drop(l []api.Passed) { p.away(l) }

func (p *plain) Fork(pid int, pd bool) (int, api.Errno) {
	child, e := p.procs.Fork(pid, pd)
	if e != api.OK {
		return 0, e
	}
	for fd := range p.l.Fds {
		if s, there := p.fds[place{pid, fd}]; there {
			p.fds[place{child, fd}] = s
		}
	}
	return child, api.OK
}

func (p *plain) End(pid, code int) api.Errno { return p.end(pid, code) }

func (p *plain) end(pid, code int) api.Errno {
	e := p.procs.Exit(pid, code)
	if e == api.OK {
		delete(p.parks, pid)
		for fd := range p.l.Fds {
			delete(p.fds, place{pid, fd})
		}
	}
	return e
}

func (p *plain) Move(pid, dir int) api.Errno {
	st, e := p.fs.Stat(dir)
	switch {
	case !p.procs.Lives(pid):
		return api.ESRCH
	case e != api.OK:
		return e
	case st.Kind != api.KDir:
		return api.ENOTDIR
	case dir != 1 && st.Links == 0:
		return api.ENOENT
	}
	p.procs.Move(pid, dir)
	return api.OK
}

func (p *plain) Park(pid int, r api.Req) {
	if p.procs.Lives(pid) {
		p.parks[pid] = r
	}
}

func (p *plain) Wake(pid int) { delete(p.parks, pid) }

func (p *plain) Dump() api.Dump {
	d := api.Dump{
		Procs:  p.procs.Dump(),
		Socks:  p.socks.Dump(),
		Inodes: p.fs.Dump(),
		Next:   [5]int{p.procs.Numbers(), p.last + 1, len(p.tubes) + 1, p.socks.Numbers(), p.fs.Next()},
	}
	for _, q := range d.Procs {
		for fd := range p.l.Fds {
			if s, there := p.fds[place{q.Pid, fd}]; there {
				d.Held = append(d.Held, api.Held{Pid: q.Pid, Fd: fd, Slot: s})
			}
		}
		if r, waits := p.parks[q.Pid]; waits {
			d.Parks = append(d.Parks, api.Park{Pid: q.Pid, Req: r})
		}
	}
	for _, f := range p.files {
		d.Files = append(d.Files, api.File{ID: f.id, Kind: f.kind, Obj: f.obj, Flags: f.flags, Refs: p.names(f.id)})
	}
	for i, x := range p.tubes {
		if x.reads || x.writes {
			d.Pipes = append(d.Pipes, api.Pipe{ID: i + 1, Reads: x.reads, Writes: x.writes, B: x.b})
		}
	}
	return d
}

// machine is what both worlds are.
type machine interface {
	FS() *memfs.FS
	Socks() *socks.Store
	Procs() *procs.Table
	Fits(pid, fds, files int) api.Errno
	Open(pid, kind, obj, flags int, like api.Slot) int
	Pipe() int
	Dup(pid, fd, from int) (int, api.Errno)
	Onto(pid, fd, to int) api.Errno
	Close(pid, fd int) api.Errno
	Pass(pid, fd int) (api.Passed, api.Errno)
	Give(pid int, p api.Passed) int
	Drop(l []api.Passed)
	Fork(pid int, pd bool) (int, api.Errno)
	End(pid, code int) api.Errno
	Move(pid, dir int) api.Errno
	Park(pid int, r api.Req)
	Wake(pid int)
	Dump() api.Dump
	fill(pipe int)
	sent(l []api.Passed)  // what was passed waits in a socket from here on
	comes(l []api.Passed) // what waited in a socket does no more
	settle()
}

// real is the world itself, which settles all by itself.
type real struct{ *World }

func (r real) sent([]api.Passed)  {}
func (r real) comes([]api.Passed) {}
func (r real) settle()            {}
func (r real) fill(pipe int)      { r.Ring(pipe).Put([]byte("x")) }

// step is what is done with a world: its name, and up to four numbers.
type step struct {
	what       string
	a, b, c, d int
}

// answer is what a step tells.
type answer struct {
	l []int
	p []api.Passed
	e api.Errno
}

// kinds are those of which there may be open files, by letters.
var letters = map[byte]int{'f': api.KFile, 'd': api.KDir, 'p': api.KPipe, 's': api.KSock, 'c': api.KProc}

// on makes a step. A word of a single letter opens a file of that kind, of the process a, of what has the number b, with the flags c.
func (s step) on(m machine) (x answer) {
	defer m.settle()
	if kind, opens := letters[s.what[0]]; opens && len(s.what) == 1 {
		return answer{l: []int{m.Open(s.a, kind, s.b, s.c, tables.Full(1))}}
	}
	n := 0
	switch s.what {
	case "openLess":
		n = m.Open(s.a, api.KDir, s.b, 0, less)
	case "openWrong":
		n = m.Open(s.a, s.b, s.c, s.d, tables.Full(1))
	case "fits":
		x.e = m.Fits(s.a, s.b, s.c)
	case "dup":
		n, x.e = m.Dup(s.a, s.b, s.c)
	case "onto":
		x.e = m.Onto(s.a, s.b, s.c)
	case "close":
		x.e = m.Close(s.a, s.b)
	case "fork":
		n, x.e = m.Fork(s.a, s.b > 0)
	case "end":
		x.e = m.End(s.a, s.b)
	case "move":
		x.e = m.Move(s.a, s.b)
	case "park":
		m.Park(s.a, api.Req{No: s.b, L: []int{s.c}})
	case "wake":
		m.Wake(s.a)
	case "pipe":
		n = m.Pipe()
	case "fill":
		m.fill(s.a)
	default:
		return s.onTables(m)
	}
	x.l = []int{n}
	return x
}

// onTables makes the steps that go beside the world's own calls: those on its tables, and those in which descriptors are passed.
func (s step) onTables(m machine) (x answer) {
	n, n2 := 0, 0
	name := string(rune('a' + s.b))
	switch s.what {
	case "mkdir":
		n, x.e = m.FS().Create(s.a, name, api.KDir, "")
	case "mkfile":
		n, x.e = m.FS().Create(s.a, name, api.KFile, "")
	case "rmdir":
		x.e = m.FS().Rmdir(s.a, name)
	case "unlink":
		x.e = m.FS().Unlink(s.a, name)
	case "rename":
		x.e = m.FS().Rename(1, name, s.a, string(rune('a'+s.c)))
	case "write":
		x.e = m.FS().Write(s.a, s.b, []byte("y"))
	case "reap":
		n, x.e = m.Procs().Reap(s.a)
	case "wait":
		n, n2, x.e = m.Procs().Wait(s.a, 0)
	case "enter":
		x.e = m.Procs().Enter(s.a)
	case "pair":
		n, n2 = m.Socks().Pair()
	case "make":
		n = m.Socks().Make()
	case "bind":
		x.e = m.Socks().Bind(s.a, s.b)
	case "listen":
		x.e = m.Socks().Listen(s.a, s.b)
	case "connect":
		x.e = m.Socks().Connect(s.a, s.b)
	case "accept":
		n, x.e = m.Socks().Accept(s.a)
	case "pass":
		return s.passes(m)
	case "send":
		return s.sends(m)
	case "recv":
		return s.recvs(m)
	case "shut":
		var l []api.Passed
		l, x.e = m.Socks().Shut(s.a, s.b)
		m.comes(l)
		m.Drop(l)
		x.p = l
	default:
		panic(s.what)
	}
	x.l = []int{n, n2}
	return x
}

// passes passes the descriptor b of a to c, and drops it, if that one can't be given it.
func (s step) passes(m machine) (x answer) {
	p, e := m.Pass(s.a, s.b)
	if e != api.OK {
		return answer{e: e}
	}
	fd := m.Give(s.c, p)
	if fd < 0 {
		m.Drop([]api.Passed{p})
	}
	return answer{l: []int{fd}, p: []api.Passed{p}}
}

// sends sends the descriptors b and d of a (or just b, if d is below 0) through the socket c, and drops them, if that can't be.
func (s step) sends(m machine) (x answer) {
	var l []api.Passed
	for _, fd := range []int{s.b, s.d} {
		if fd < 0 {
			continue
		}
		p, e := m.Pass(s.a, fd)
		if e != api.OK {
			m.Drop(l)
			return answer{e: e}
		}
		l = append(l, p)
	}
	n, e := m.Socks().Send(s.c, []byte("z"), l)
	if e != api.OK {
		m.Drop(l)
		return answer{e: e}
	}
	m.sent(l)
	return answer{l: []int{n}, p: l}
}

// recvs receives a byte from the socket b, with up to c descriptors for a, and drops all others.
func (s step) recvs(m machine) (x answer) {
	b, told, others, e := m.Socks().Recv(s.b, 1, s.c)
	m.comes(told)
	m.comes(others)
	x = answer{l: []int{len(b)}, p: append(slices.Clone(told), others...), e: e}
	for _, p := range told {
		fd := m.Give(s.a, p)
		if fd < 0 {
			m.Drop([]api.Passed{p})
		}
		x.l = append(x.l, fd)
	}
	m.Drop(others)
	return x
}

// same makes a step on both worlds, and tells whether both answer alike and are alike then, and all that is asked tells so.
func same(w *World, p *plain, s step) (answer, error) {
	before := fmt.Sprint(w.Dump())
	got, want := s.on(real{w}), s.on(p)
	if a, b := fmt.Sprint(got), fmt.Sprint(want); a != b {
		return got, fmt.Errorf("%v: %s, not %s", s, a, b)
	}
	d := w.Dump()
	now := fmt.Sprint(d)
	if want := fmt.Sprint(p.Dump()); now != want {
		return got, fmt.Errorf("%v:\n%s\nnot\n%s", s, now, want)
	}
	if got.e != api.OK && now != before {
		return got, fmt.Errorf("%v: %d changes\n%s\nto\n%s", s, got.e, before, now)
	}
	if e := asks(w, d); e != nil {
		return got, fmt.Errorf("%v: %v", s, e)
	}
	return got, nil
}

// asks tells whether all that is asked says what Dump says, of all numbers that may be there, and of those beside them.
func asks(w *World, d api.Dump) error {
	l := w.Limits()
	for pid := -1; pid <= d.Next[0]+1; pid++ {
		t, lives := w.Slots(pid), w.Procs().Lives(pid)
		if (t != nil) != lives {
			return fmt.Errorf("Slots(%d): %v", pid, t)
		}
		used := 0
		for fd := -1; fd <= l.Fds; fd++ {
			at := slices.IndexFunc(d.Held, func(h api.Held) bool { return h.Pid == pid && h.Fd == fd })
			s, f, e := w.Look(pid, fd, 0)
			switch {
			case !lives && e != api.ESRCH, lives && at < 0 && e != api.EBADF:
				return fmt.Errorf("Look(%d, %d): %d", pid, fd, e)
			case at < 0:
				continue
			}
			used++
			if g, _ := w.Files().Get(s.File); fmt.Sprint(s) != fmt.Sprint(d.Held[at].Slot) || f != g || f.Refs < 1 || e != api.OK {
				return fmt.Errorf("Look(%d, %d): %v %v %d", pid, fd, s, f, e)
			}
		}
		if lives && (w.Fits(pid, l.Fds-used, l.Files-len(d.Files)) != api.OK || w.Fits(pid, l.Fds-used+1, 0) != api.EMFILE || w.Fits(pid, 0, l.Files-len(d.Files)+1) != api.ENFILE) {
			return fmt.Errorf("Fits(%d), which has %d", pid, used)
		}
		at := slices.IndexFunc(d.Parks, func(p api.Park) bool { return p.Pid == pid })
		r, waits := w.Parked(pid)
		if waits != (at >= 0) || waits && fmt.Sprint(r) != fmt.Sprint(d.Parks[at].Req) || !waits && fmt.Sprint(r) != fmt.Sprint(api.Req{}) {
			return fmt.Errorf("Parked(%d): %v %v", pid, r, waits)
		}
	}
	for id := -1; id <= d.Next[2]+1; id++ {
		var want api.Pipe
		if at := slices.IndexFunc(d.Pipes, func(p api.Pipe) bool { return p.ID == id }); at >= 0 {
			want = d.Pipes[at]
		}
		reads, writes := w.Ends(id)
		if r := w.Ring(id); reads != want.Reads || writes != want.Writes || (r == nil) != (want.ID == 0) || string(r.Peek(l.Pipe)) != want.B {
			return fmt.Errorf("Ends(%d): %v %v, Ring %v", id, reads, writes, r)
		}
	}
	return nil
}

// counted is P17.9, word by word.
func counted(d api.Dump) error {
	refs := map[int]int{}
	for _, h := range d.Held {
		refs[h.Slot.File]++
	}
	for _, s := range d.Socks {
		for _, part := range s.Parts {
			for _, p := range part.L {
				refs[p.File]++
			}
		}
	}
	holds := map[int]int{1: 1}
	for _, f := range d.Files {
		if f.Refs != refs[f.ID] {
			return fmt.Errorf("%v is named by %d", f, refs[f.ID])
		}
		if f.Kind == api.KFile || f.Kind == api.KDir {
			holds[f.Obj]++
		}
	}
	for _, p := range d.Procs {
		holds[p.Cwd]++
	}
	for _, x := range d.Inodes {
		if x.Holds != holds[x.Ino] {
			return fmt.Errorf("%v is held by %d", x, holds[x.Ino])
		}
	}
	return nil
}

// left is P17.10, word by word: what there is, though nobody names it.
func left(d api.Dump) error {
	is := map[string]bool{}
	for _, f := range d.Files {
		if f.Refs < 1 {
			return fmt.Errorf("%v is open", f)
		}
		is[fmt.Sprint(f.Kind, f.Obj)] = true
		is[fmt.Sprint(f.Kind, f.Obj, f.Flags&api.OWrite)] = true
	}
	for _, s := range d.Socks {
		for _, id := range s.Waits {
			is[fmt.Sprint(api.KSock, id)] = true
		}
	}
	for _, s := range d.Socks {
		if !is[fmt.Sprint(api.KSock, s.ID)] {
			return fmt.Errorf("nobody has %v", s)
		}
	}
	for _, p := range d.Pipes {
		if p.Reads != is[fmt.Sprint(api.KPipe, p.ID, 0)] || p.Writes != is[fmt.Sprint(api.KPipe, p.ID, 1)] || !p.Reads && !p.Writes || !p.Reads && p.B != "" {
			return fmt.Errorf("%v is not open so", p)
		}
	}
	for _, x := range d.Inodes {
		if x.Links+x.Holds < 1 {
			return fmt.Errorf("%v is neither linked nor open", x)
		}
	}
	lives := map[int]bool{}
	for _, p := range d.Procs {
		lives[p.Pid] = p.Lives
		if !p.Lives && p.Pd && !is[fmt.Sprint(api.KProc, p.Pid)] {
			return fmt.Errorf("nobody can reap %v", p)
		}
	}
	for _, h := range d.Held {
		if !lives[h.Pid] {
			return fmt.Errorf("%v is of one that does not live", h)
		}
	}
	for _, p := range d.Parks {
		if !lives[p.Pid] {
			return fmt.Errorf("%v is of one that does not live", p)
		}
	}
	return nil
}

// few are limits that are soon reached.
var few = api.Limits{Procs: 3, Fds: 4, Files: 5, Inodes: 4, Blocks: 1, Pipe: 2, Sock: 2}

// rows makes every row of so many steps, from what the scene comes to.
func rows(t *testing.T, l api.Limits, length int, scene, steps []step) {
	t.Helper()
	count := 1
	for range length {
		count *= len(steps)
	}
	for row := range count {
		w, p := made(t, l), newPlain(l)
		for _, s := range scene {
			s.on(real{w})
			s.on(p)
		}
		for k, rest := 0, row; k < length; k, rest = k+1, rest/len(steps) {
			if _, e := same(w, p, steps[rest%len(steps)]); e != nil {
				t.Fatalf("row %d, step %d: %v", row, k, e)
			}
		}
	}
}

// things is every kind of thing opened, by 1, and a child of it, which waits.
var things = []step{
	{"mkdir", 1, 0, 0, 0}, {"mkfile", 1, 1, 0, 0}, {"pipe", 0, 0, 0, 0},
	{"d", 1, 2, 0, 0}, {"f", 1, 3, api.OBoth, 0}, {"p", 1, 1, 0, 0},
	{"fork", 1, 1, 0, 0}, {"close", 2, 0, 0, 0}, {"p", 2, 1, api.OWrite, 0},
	{"c", 1, 2, 0, 0}, {"move", 2, 2, 0, 0}, {"fill", 1, 0, 0, 0}, {"park", 2, 3, 1, 0},
}

// joined is a pair in the hands of 1, of which a child has the second one alone; each of both waits in the other.
var joined = []step{
	{"pair", 0, 0, 0, 0}, {"s", 1, 1, api.OBoth, 0}, {"s", 1, 2, api.OBoth, 0},
	{"fork", 1, 1, 0, 0}, {"close", 2, 0, 0, 0}, {"c", 1, 2, 0, 0}, {"send", 1, 0, 1, -1}, {"send", 1, 1, 2, 2},
}

// P17.1 to P17.10: every row of three steps from the beginning.
func TestRowsAgainstPlain(t *testing.T) {
	rows(t, few, 3, nil, []step{
		{"mkdir", 1, 0, 0, 0}, {"rmdir", 1, 0, 0, 0}, {"move", 1, 2, 0, 0}, {"move", 1, 1, 0, 0},
		{"d", 1, 1, 0, 0}, {"f", 1, 2, 1, 0}, {"p", 1, 1, 0, 0}, {"p", 1, 1, 1, 0}, {"s", 1, 2, 2, 0}, {"c", 1, 2, 0, 0},
		{"openLess", 2, 1, 0, 0}, {"openWrong", 1, api.KSymlink, 1, 0}, {"pipe", 0, 0, 0, 0}, {"pair", 0, 0, 0, 0}, {"fill", 1, 0, 0, 0},
		{"dup", 1, 0, 1, 0}, {"onto", 1, 0, 3, 0}, {"onto", 1, 0, 4, 0}, {"close", 1, 0, 0, 0}, {"pass", 1, 0, 2, 0}, {"send", 1, 0, 1, 1},
		{"fork", 1, 0, 0, 0}, {"fork", 1, 1, 0, 0}, {"end", 2, 5, 0, 0}, {"end", 1, 5, 0, 0}, {"wait", 1, 0, 0, 0}, {"reap", 2, 0, 0, 0},
		{"park", 1, 3, 4, 0}, {"wake", 1, 0, 0, 0}, {"park", 2, 3, 4, 0},
	})
}

// P17.2 to P17.10: every row of three steps from a world with each kind of thing.
func TestRowsWithFiles(t *testing.T) {
	rows(t, few, 3, things, []step{
		{"close", 1, 0, 0, 0}, {"close", 1, 1, 0, 0}, {"close", 1, 2, 0, 0}, {"close", 1, 3, 0, 0}, {"close", 2, 0, 0, 0}, {"close", 2, 2, 0, 0},
		{"onto", 1, 2, 3, 0}, {"onto", 2, 2, 0, 0}, {"onto", 1, 0, 0, 0}, {"dup", 2, 0, 3, 0}, {"dup", 1, 0, 4, 0}, {"dup", 2, 1, 0, 0},
		{"pass", 1, 3, 2, 0}, {"pass", 2, 0, 1, 0}, {"rmdir", 1, 0, 0, 0}, {"unlink", 1, 1, 0, 0}, {"move", 2, 1, 0, 0}, {"move", 1, 2, 0, 0}, {"move", 1, 3, 0, 0},
		{"end", 2, 9, 0, 0}, {"reap", 2, 0, 0, 0}, {"fork", 2, 0, 0, 0}, {"fork", 2, 1, 0, 0}, {"park", 2, 1, 0, 0}, {"wake", 2, 0, 0, 0}, {"write", 3, 0, 0, 0},
	})
}

// P17.4 to P17.10: every row of three steps from a world with two sockets that wait in one another.
func TestRowsWithSockets(t *testing.T) {
	rows(t, few, 3, joined, []step{
		{"close", 1, 0, 0, 0}, {"close", 1, 1, 0, 0}, {"close", 1, 2, 0, 0}, {"close", 2, 1, 0, 0}, {"end", 2, 0, 0, 0}, {"fork", 2, 1, 0, 0},
		{"send", 1, 2, 2, -1}, {"send", 1, 2, 1, -1}, {"send", 2, 1, 1, 1}, {"send", 2, 1, 2, -1}, {"recv", 1, 1, 1, 0}, {"recv", 2, 2, 2, 0}, {"recv", 2, 2, 0, 0}, {"recv", 2, 1, 1, 0},
		{"shut", 1, 2, 0, 0}, {"shut", 2, 0, 0, 0}, {"pass", 1, 2, 2, 0}, {"pass", 1, 0, 2, 0}, {"onto", 2, 1, 0, 0}, {"onto", 1, 1, 2, 0}, {"dup", 1, 2, 3, 0}, {"s", 2, 1, 0, 0}, {"s", 1, 2, 0, 0},
	})
}

// dice answers a roller of numbers below n, always the same row of them.
func dice(seed uint64) func(n int) int {
	return func(n int) int {
		seed = seed*6364136223846793005 + 1442695040888963407
		return int(seed >> 33 % uint64(n))
	}
}

// P17.1 to P17.9: long rows of steps of all kinds, on anything, with wrong things among it.
func TestLongRowsAgainstPlain(t *testing.T) {
	words := []string{
		"f", "d", "p", "s", "c", "openLess", "openWrong", "fits", "dup", "onto", "close", "fork", "end", "move", "park", "wake", "pipe", "fill",
		"mkdir", "mkfile", "rmdir", "unlink", "rename", "write", "reap", "wait", "enter", "pair", "make", "bind", "listen", "connect", "accept", "pass", "send", "recv", "shut",
		"f", "d", "p", "s", "c", "pass", "send", "send", "recv", "dup", "fork", "close",
	}
	told := map[string]int{}
	for seed := range 60 {
		dice := dice(uint64(seed))
		pick := func(l ...int) int { return l[dice(len(l))] }
		l := api.Limits{Procs: 1 + dice(6), Fds: 1 + dice(8), Files: 1 + dice(12), Inodes: 1 + dice(8), Blocks: dice(4), Pipe: 1 + dice(4), Sock: 1 + dice(6)}
		w, p := made(t, l), newPlain(l)
		for i := range 400 {
			d := w.Dump()
			who := func() int {
				if dice(12) == 0 {
					return pick(0, -1, d.Next[0])
				}
				return d.Procs[dice(len(d.Procs))].Pid
			}
			fd := func() int { return pick(0, 1, dice(l.Fds), dice(l.Fds), dice(l.Fds+1), dice(l.Fds+2)-1) }
			obj := func(which int) int { return pick(1, 1+dice(d.Next[which]), d.Next[which]-1, d.Next[which]-2) }
			s := step{words[dice(len(words))], who(), fd(), fd(), pick(-1, fd())}
			switch s.what {
			case "f", "d", "openLess":
				s.b, s.c = obj(4), pick(0, 1, 2, 4, 8, 3, 0x201)
			case "p":
				s.b, s.c = obj(2), dice(4)
			case "s":
				s.b, s.c = obj(3), 2
			case "c":
				s.b, s.c = who(), 0
			case "openWrong":
				s.b, s.c, s.d = dice(10), dice(4)-1, dice(70)
			case "fill":
				s.a = obj(2)
			case "mkdir", "mkfile", "rmdir", "unlink", "rename":
				s.a, s.b, s.c = pick(1, 1, obj(4)), dice(4), dice(4)
			case "write":
				s.a, s.b = obj(4), pick(0, 64)
			case "move":
				s.b = obj(4)
			case "bind", "listen", "connect", "accept", "shut":
				s.a, s.b = obj(3), pick(obj(3), dice(3))
			case "send":
				s.c = obj(3)
			case "recv":
				s.b = obj(3)
			case "end", "reap":
				if dice(3) > 0 {
					s.what = "park"
				}
			case "pass":
				s.c = who()
			}
			a, e := same(w, p, s)
			if e != nil {
				t.Fatalf("%v, seed %d, step %d: %v", l, seed, i, e)
			}
			told[fmt.Sprintf("%s %d", s.what, a.e)]++
		}
	}
	for _, what := range []string{
		"fork 0", "fork 3", "fork 35", "end 0", "end 1", "end 3", "move 0", "move 2", "move 3", "move 20", "fits 0", "fits 3", "fits 23", "fits 24",
		"dup 0", "dup 3", "dup 9", "dup 22", "dup 24", "onto 0", "onto 3", "onto 9", "close 0", "close 3", "close 9", "pass 0", "pass 3", "pass 9",
		"send 0", "recv 0", "shut 0", "accept 0", "connect 0", "wait 0", "reap 0", "park 0",
	} {
		if told[what] == 0 {
			t.Errorf("no step was told %s", what)
		}
	}
}
