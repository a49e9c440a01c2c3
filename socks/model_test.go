package socks

import (
	"fmt"
	"slices"
	"testing"

	"purlieu/api"
	"purlieu/queue"
)

// line is one way between two sockets, in the model: what waits for the one that reads, and whether each of both has shut its side, or is gone.
type line struct {
	*queue.Queue
	readShut, readGone, writeShut, writeGone bool
}

// end is a socket in the model: what comes in and what goes out are lines, none of one that is not joined.
type end struct {
	id, bound, most int
	listens, gone   bool
	waits           []*end
	in, out         *line
	other           *end
}

// plain is a store as the chapter says it: all sockets that ever were, in their order.
type plain struct {
	bound int
	ends  []*end
}

func (p *plain) find(id int) *end {
	for _, x := range p.ends {
		if x.id == id && !x.gone {
			return x
		}
	}
	return nil
}

func (p *plain) make() *end {
	x := &end{id: len(p.ends) + 1}
	p.ends = append(p.ends, x)
	return x
}

func (p *plain) join(a, b *end) {
	a.in, b.in = &line{Queue: queue.New(p.bound)}, &line{Queue: queue.New(p.bound)}
	a.out, b.out = b.in, a.in
	a.other, b.other = b, a
}

func (p *plain) bind(id, ino int) api.Errno {
	x := p.find(id)
	if x == nil || x.listens || x.in != nil || x.bound > 0 || ino <= 0 {
		return api.EINVAL
	}
	x.bound = ino
	return api.OK
}

func (p *plain) bounds(ino int) int {
	for _, x := range p.ends {
		if !x.gone && x.bound > 0 && x.bound == ino {
			return x.id
		}
	}
	return 0
}

func (p *plain) listen(id, n int) api.Errno {
	x := p.find(id)
	if x == nil || x.in != nil || x.bound == 0 || n < 0 {
		return api.EINVAL
	}
	x.listens, x.most = true, n
	if n > 8 {
		x.most = 8
	}
	return api.OK
}

func (p *plain) connect(id, to int) api.Errno {
	x, at := p.find(id), p.find(to)
	if x == nil {
		return api.EINVAL
	}
	if x.in != nil {
		return api.EISCONN
	}
	if x.listens {
		return api.EOPNOTSUPP
	}
	if at == nil || !at.listens || at.most <= len(at.waits) {
		return api.ECONNREFUSED
	}
	fresh := p.make()
	p.join(x, fresh)
	at.waits = append(at.waits, fresh)
	return api.OK
}

func (p *plain) accept(id int) (int, api.Errno) {
	x := p.find(id)
	if x == nil || !x.listens {
		return 0, api.EINVAL
	}
	if len(x.waits) == 0 {
		return 0, api.EAGAIN
	}
	first := x.waits[0]
	x.waits = x.waits[1:]
	return first.id, api.OK
}

// notJoined answers the error of one that is not there, or not joined.
func notJoined(x *end) api.Errno {
	if x == nil {
		return api.EINVAL
	}
	if x.in == nil {
		return api.ENOTCONN
	}
	return api.OK
}

func (p *plain) shut(id, how int) ([]api.Passed, api.Errno) {
	x := p.find(id)
	if e := notJoined(x); e != api.OK {
		return nil, e
	}
	var told []api.Passed
	switch how {
	case 0:
		x.in.readShut, told = true, x.in.Clear()
	case 1:
		x.out.writeShut = true
	case 2:
		x.in.readShut, x.out.writeShut, told = true, true, x.in.Clear()
	default:
		return nil, api.EINVAL
	}
	return told, api.OK
}

func (l *line) send(b []byte, passed []api.Passed) (int, api.Errno) {
	if l.writeShut || l.readShut || l.readGone {
		return 0, api.EPIPE
	}
	return l.Put(b, passed)
}

func (l *line) recv(n, most int) ([]byte, []api.Passed, []api.Passed, api.Errno) {
	b, told, others := l.Take(n, most)
	if n < 1 || len(b) > 0 || l.writeShut || l.readShut || l.writeGone {
		return b, told, others, api.OK
	}
	return nil, nil, nil, api.EAGAIN
}

// like answers a line with the same on it, for what is only tried.
func (l *line) like(bound int) *line {
	c := *l
	c.Queue = queue.New(bound)
	for _, p := range l.Dump() {
		c.Put(p.B, p.L)
	}
	return &c
}

func (p *plain) send(id int, b []byte, l []api.Passed) (int, api.Errno) {
	x := p.find(id)
	if e := notJoined(x); e != api.OK {
		return 0, e
	}
	return x.out.send(b, l)
}

func (p *plain) recv(id, n, most int) ([]byte, []api.Passed, []api.Passed, api.Errno) {
	x := p.find(id)
	if e := notJoined(x); e != api.OK {
		return nil, nil, nil, e
	}
	return x.in.recv(n, most)
}

func (p *plain) ready(id int) (bool, bool) {
	x := p.find(id)
	if x == nil || x.in == nil {
		return x != nil && len(x.waits) > 0, false
	}
	_, _, _, r := x.in.like(p.bound).recv(1, 0)
	_, w := x.out.like(p.bound).send([]byte("x"), nil)
	return r != api.EAGAIN, w != api.EAGAIN
}

func (p *plain) close(id int) []api.Passed {
	x := p.find(id)
	if x == nil {
		return nil
	}
	var told []api.Passed
	for _, y := range append([]*end{x}, x.waits...) {
		y.gone = true
		if y.in != nil {
			told = append(told, y.in.Clear()...)
			y.in.readGone, y.out.writeGone = true, true
		}
	}
	for _, at := range p.ends {
		at.waits = slices.DeleteFunc(slices.Clone(at.waits), func(y *end) bool { return y.gone })
	}
	return told
}

func (p *plain) dump() []api.Sock {
	var all []api.Sock
	for _, x := range p.ends {
		if x.gone {
			continue
		}
		s := api.Sock{ID: x.id, Bound: x.bound, Most: x.most}
		if x.listens {
			s.State = 1
		}
		if x.in != nil {
			s.State, s.ShutR, s.ShutW, s.Parts = 2, x.in.readShut, x.out.writeShut, x.in.Dump()
			if !x.other.gone {
				s.Peer = x.other.id
			}
		}
		for _, y := range x.waits {
			s.Waits = append(s.Waits, y.id)
		}
		all = append(all, s)
	}
	return all
}

// deed is one call: on which socket, with which numbers, and from which number on bytes and descriptors are sent.
type deed struct {
	call           string
	id, x, y, from int
}

// bytes answers n bytes from the one of that number on.
func bytes(from, n int) []byte {
	b := make([]byte, max(n, 0))
	for i := range b {
		b[i] = byte('a' + (from+i)%26)
	}
	return b
}

// passes answers n descriptors from the one of that number on.
func passes(from, n int) []api.Passed {
	var l []api.Passed
	for i := range n {
		l = append(l, pass(from+i))
	}
	return l
}

// act makes one call on a store and on its model, and tells whether they answer alike.
func act(s *Store, p *plain, d deed) bool {
	switch d.call {
	case "make":
		return s.Make() == p.make().id
	case "pair":
		one, two := s.Pair()
		a, b := p.make(), p.make()
		p.join(a, b)
		return one == a.id && two == b.id
	case "bind":
		return s.Bind(d.id, d.x) == p.bind(d.id, d.x)
	case "listen":
		return s.Listen(d.id, d.x) == p.listen(d.id, d.x)
	case "connect":
		return s.Connect(d.id, d.x) == p.connect(d.id, d.x)
	case "accept":
		got, e := s.Accept(d.id)
		want, wantE := p.accept(d.id)
		return got == want && e == wantE
	case "shut":
		got, e := s.Shut(d.id, d.x)
		want, wantE := p.shut(d.id, d.x)
		return samePassed(got, want) && e == wantE
	case "send":
		got, e := s.Send(d.id, bytes(d.from, d.x), passes(d.from, d.y))
		want, wantE := p.send(d.id, bytes(d.from, d.x), passes(d.from, d.y))
		return got == want && e == wantE
	case "recv":
		b, told, others, e := s.Recv(d.id, d.x, d.y)
		wantB, wantT, wantO, wantE := p.recv(d.id, d.x, d.y)
		return string(b) == string(wantB) && samePassed(told, wantT) && samePassed(others, wantO) && e == wantE
	case "close":
		return samePassed(s.Close(d.id), p.close(d.id))
	}
	return false
}

// alike tells whether a store has what its model has, all that can be asked of it, and holds P11.7.
func alike(s *Store, p *plain) bool {
	dump := s.Dump()
	if !sameSocks(dump, p.dump()) || s.Numbers() != len(p.ends)+1 || !twoEnds(dump) {
		return false
	}
	for _, x := range dump {
		r, w := s.Ready(x.ID)
		wantR, wantW := p.ready(x.ID)
		n, next := 0, 0
		if q := p.find(x.ID).in; q != nil {
			n, next = q.Len(), q.Next()
		}
		if r != wantR || w != wantW || s.State(x.ID) != x.State || s.Bound(x.ID) != x.Bound || s.Len(x.ID) != n || s.Next(x.ID) != next {
			return false
		}
	}
	for ino := range 4 {
		if s.Find(ino) != p.bounds(ino) {
			return false
		}
	}
	return true
}

// twoEnds tells whether P11.7 holds: of joined sockets each is the other one's Peer, or has 0; others have no Peer.
func twoEnds(dump []api.Sock) bool {
	peers := map[int]int{}
	for _, x := range dump {
		if x.State == api.SockJoined {
			peers[x.ID] = x.Peer
		} else if x.Peer != 0 {
			return false
		}
	}
	for id, peer := range peers {
		if back, there := peers[peer]; peer != 0 && (!there || back != id || peer == id) {
			return false
		}
	}
	return true
}

// scenes are rows of calls that come to where the calls of a row may differ most.
func scenes() [][]deed {
	listener := []deed{{call: "make"}, {call: "bind", id: 1, x: 1}, {call: "listen", id: 1, x: 1}, {call: "make"}}
	waits := append(slices.Clone(listener), deed{call: "connect", id: 2, x: 1})
	talks := append(slices.Clone(waits), deed{call: "send", id: 2, x: 2, y: 2, from: 30}, deed{call: "send", id: 3, x: 1, y: 1, from: 40})
	accepted := append(slices.Clone(talks), deed{call: "accept", id: 1})
	again := append(slices.Clone(talks), deed{call: "listen", id: 1, x: 2}, deed{call: "make"})
	return [][]deed{{}, {{call: "pair"}}, listener, waits, talks, accepted, again, {{call: "make"}, {call: "make"}, {call: "bind", id: 2, x: 1}}}
}

// deeds are calls on the sockets 1 to 4, of which few are there in the first scenes, and on none.
func deeds() []deed {
	all := []deed{{call: "make"}, {call: "pair"}, {call: "connect", x: 1}, {call: "close"}, {call: "send", x: 1}}
	for id := 1; id <= 4; id++ {
		all = append(all, deed{call: "bind", id: id, x: 1}, deed{call: "bind", id: id, x: 0},
			deed{call: "listen", id: id, x: 0}, deed{call: "listen", id: id, x: 2}, deed{call: "listen", id: id, x: -1},
			deed{call: "connect", id: id, x: 1}, deed{call: "connect", id: id, x: 2}, deed{call: "accept", id: id},
			deed{call: "send", id: id, x: 1, y: 1, from: id}, deed{call: "send", id: id, x: 0},
			deed{call: "recv", id: id, x: 1}, deed{call: "recv", id: id, x: 3, y: 1}, deed{call: "recv", id: id, y: 1},
			deed{call: "close", id: id})
		for how := -1; how <= 2; how++ {
			all = append(all, deed{call: "shut", id: id, x: how})
		}
	}
	return all
}

// P11.1 to P11.7: all rows of two calls from all scenes, held against the model, and of three from those where two sockets talk.
func TestAllRows(t *testing.T) {
	all := deeds()
	for i, scene := range scenes() {
		calls, rows := 2, len(all)*len(all)
		if i == 1 || i == 4 {
			calls, rows = 3, rows*len(all)
		}
		for row := range rows {
			s, p := New(2), &plain{bound: 2}
			for _, d := range scene {
				act(s, p, d)
			}
			for k, rest := 0, row; k < calls; k, rest = k+1, rest/len(all) {
				if d := all[rest%len(all)]; !act(s, p, d) {
					t.Fatalf("scene %d, row %d: call %d %v", i, row, k, d)
				}
			}
			if !alike(s, p) {
				t.Fatalf("scene %d, row %d: %s\nnot %s", i, row, tell(s.Dump()), tell(p.dump()))
			}
		}
	}
}

// row answers a function that tells numbers below n, the same ones in every run.
func row(seed uint32) func(n int) int {
	return func(n int) int {
		seed = seed*1664525 + 1013904223
		return int(seed>>8) % n
	}
}

// such answers a call such as come, on one of the last sockets for the most part.
func such(next func(int) int, last, size, i int) deed {
	id := max(last-next(9), 0)
	if next(3) == 0 {
		id = next(last+2) - 1
	}
	d := deed{id: id, from: i}
	switch n := next(40); {
	case n < 4:
		d.call = "make"
	case n == 4:
		d.call = "pair"
	case n < 8:
		d.call, d.x = "bind", next(5)-1
	case n < 11:
		d.call, d.x = "listen", next(11)-1
	case n < 18:
		d.call, d.x = "connect", next(last+2)
	case n < 21:
		d.call = "accept"
	case n == 21:
		d.call, d.x = "shut", next(5)-1
	case n < 30:
		d.call, d.x, d.y = "send", next(size+1), max(next(8)-2, 0)
	case n < 39:
		d.call, d.x, d.y = "recv", next(size+2)-1, next(7)-1
	default:
		d.call = "close"
	}
	return d
}

// P11.1 to P11.7: long rows of calls, held against the model.
func TestLongRows(t *testing.T) {
	for seed, bound := range []int{1, 2, 3, 5, 8, 16, 17, 40, 300, most} {
		next := row(uint32(seed))
		s, p := New(bound), &plain{bound: bound}
		for i := range 1500 {
			d := such(next, len(p.ends), min(bound+bound/4+1, 900), i)
			if !act(s, p, d) || !alike(s, p) {
				t.Fatalf("bound %d, call %d: %v: %s\nnot %s", bound, i, d, tell(s.Dump()), tell(p.dump()))
			}
		}
	}
}

// P11.7, P11.6: when all are closed, in whatever order, all that was passed and not received was told, each once.
func TestNothingIsLost(t *testing.T) {
	for seed := range 20 {
		next := row(uint32(1000 + seed))
		s, sent, told := New(30), 0, map[int]int{}
		note := func(l []api.Passed) {
			for _, x := range l {
				told[x.File]++
			}
		}
		s.Make()
		s.Bind(1, 1)
		s.Listen(1, 8)
		for range 400 {
			id := 1 + next(s.Numbers())
			switch next(8) {
			case 0:
				s.Connect(s.Make(), 1)
			case 1:
				s.Accept(1)
			case 2:
				_, a, b, _ := s.Recv(id, 1+next(9), next(4))
				note(a)
				note(b)
			case 3:
				if next(6) == 0 {
					l, _ := s.Shut(id, next(3))
					note(l)
				}
			default:
				n := next(5)
				if _, e := s.Send(id, bytes(0, 1+next(3)), passes(sent, n)); e == api.OK {
					sent += n
				}
			}
		}
		for s.Numbers() > 1 && len(s.Dump()) > 0 {
			dump := s.Dump()
			note(s.Close(dump[next(len(dump))].ID))
		}
		for i := range sent {
			if told[i] != 1 {
				t.Fatalf("seed %d: the descriptor %d of %d was told %d times", seed, i, sent, told[i])
			}
		}
		if sent == 0 || len(told) != sent {
			t.Errorf("seed %d: %d told, %d sent", seed, len(told), sent)
		}
	}
}

// P11.8: what is sent is received at the other end, in its order, both ways, of pairs and of those that were accepted; then one is shut or closed.
func TestInOrder(t *testing.T) {
	for seed, bound := range []int{1, 2, 5, 16, 33, 200, most} {
		next := row(uint32(seed + 8))
		s := door(t, bound, 1)
		tells(t, "Connect", s.Connect(s.Make(), 1), api.OK)
		s.Pair()
		var sent, got [6]string
		other := [6]int{2: 3, 3: 2, 4: 5, 5: 4}
		for i := range 1500 {
			id := 2 + next(4)
			if i == 300 {
				accepts(t, s, 1, 3, api.OK)
			}
			if next(2) == 0 {
				b := bytes(i, 1+next(bound+2))
				n, _ := s.Send(id, b, passes(i, next(3)))
				sent[other[id]] += string(b[:n])
			} else {
				b, _, _, _ := s.Recv(id, 1+next(bound+2), next(3))
				got[id] += string(b)
			}
			if at := got[id]; len(at) > len(sent[id]) || sent[id][:len(at)] != at || len(sent[id])-len(at) != s.Len(id) {
				t.Fatalf("bound %d, call %d: %d bytes received, %d sent, %d wait", bound, i, len(at), len(sent[id]), s.Len(id))
			}
		}
		s.Close(2)
		s.Shut(4, 1)
		for _, id := range []int{3, 5} {
			for s.Len(id) > 0 {
				b, _, _, e := s.Recv(id, 1+next(bound), 4)
				if len(b) == 0 || e != api.OK {
					t.Fatalf("bound %d: %d received, %d, %d wait", bound, len(b), e, s.Len(id))
				}
				got[id] += string(b)
			}
			if got[id] != sent[id] || len(got[id]) == 0 {
				t.Errorf("bound %d: %d bytes received, %d sent", bound, len(got[id]), len(sent[id]))
			}
			recvs(t, s, id, 9, 4, "", nil, nil, api.OK)
		}
	}
}

// P11.8: two pairs know nothing of one another, and no socket has what it sent itself.
func TestApart(t *testing.T) {
	s := New(3)
	for range 3 {
		s.Pair()
	}
	for id := 1; id <= 6; id++ {
		sends(t, s, id, fmt.Sprint("b", id), some(id), 2, api.OK)
	}
	for id := 1; id <= 6; id++ {
		from := (id - 1) ^ 1 + 1
		recvs(t, s, id, 9, 4, fmt.Sprint("b", from), some(from), nil, api.OK)
	}
}
