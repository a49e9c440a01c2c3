package socks

import (
	"fmt"
	"math"
	"slices"
	"strings"
	"testing"

	"purlieu/api"
)

const most = api.MaxBuffer

// pass answers a descriptor that is passed, in which each field tells its number.
func pass(i int) api.Passed {
	p := api.Passed{File: i, Rights: api.Rights(i + 1), Fcntls: 1000 + i}
	if i%3 == 0 {
		p.Ioctls.All = true
	} else {
		p.Ioctls.L = []int{i, i + 7}
	}
	return p
}

// some answers the ones of these numbers.
func some(numbers ...int) []api.Passed {
	var l []api.Passed
	for _, i := range numbers {
		l = append(l, pass(i))
	}
	return l
}

// part answers a part with these bytes, and the descriptors of these numbers.
func part(b string, numbers ...int) api.Part { return api.Part{B: []byte(b), L: some(numbers...)} }

// parts answers a list of them.
func parts(l ...api.Part) []api.Part { return l }

// samePassed tells whether two lists of what is passed are alike; nil and empty lists are.
func samePassed(a, b []api.Passed) bool {
	return slices.EqualFunc(a, b, func(x, y api.Passed) bool {
		return x.File == y.File && x.Rights == y.Rights && x.Fcntls == y.Fcntls && x.Ioctls.All == y.Ioctls.All && slices.Equal(x.Ioctls.L, y.Ioctls.L)
	})
}

// sameSocks tells whether two dumps are alike.
func sameSocks(a, b []api.Sock) bool {
	return slices.EqualFunc(a, b, func(x, y api.Sock) bool {
		return x.ID == y.ID && x.State == y.State && x.Peer == y.Peer && x.Bound == y.Bound && x.Most == y.Most &&
			slices.Equal(x.Waits, y.Waits) && x.ShutR == y.ShutR && x.ShutW == y.ShutW &&
			slices.EqualFunc(x.Parts, y.Parts, func(p, q api.Part) bool { return string(p.B) == string(q.B) && samePassed(p.L, q.L) })
	})
}

// tell answers the text of a dump.
func tell(l []api.Sock) string {
	var s strings.Builder
	for _, x := range l {
		fmt.Fprintf(&s, "\n\t%d: state %d, peer %d, bound %d, most %d, waits %v, shut %v %v, parts", x.ID, x.State, x.Peer, x.Bound, x.Most, x.Waits, x.ShutR, x.ShutW)
		for _, p := range x.Parts {
			fmt.Fprintf(&s, " %q%v", p.B, p.L)
		}
	}
	return s.String()
}

// is says all of a store: its sockets, what is asked of each of them, and the next number.
func is(t *testing.T, s *Store, what string, next int, want ...api.Sock) {
	t.Helper()
	if got := s.Dump(); !sameSocks(got, want) {
		t.Errorf("%s: Dump %s\nnot %s", what, tell(got), tell(want))
	}
	if s.Numbers() != next {
		t.Errorf("%s: Numbers %d, not %d", what, s.Numbers(), next)
	}
	for _, x := range want {
		bytes, first := 0, 0
		for i, p := range x.Parts {
			bytes += len(p.B)
			if i == 0 {
				first = len(p.L)
			}
		}
		if s.State(x.ID) != x.State || s.Bound(x.ID) != x.Bound || s.Len(x.ID) != bytes || s.Next(x.ID) != first {
			t.Errorf("%s: %d: State %d, Bound %d, Len %d, Next %d", what, x.ID, s.State(x.ID), s.Bound(x.ID), s.Len(x.ID), s.Next(x.ID))
		}
	}
}

// stays runs some calls behind which the store must be what it was.
func stays(t *testing.T, s *Store, what string, calls func()) {
	t.Helper()
	was, next := s.Dump(), s.Numbers()
	calls()
	if got := s.Dump(); !sameSocks(got, was) || s.Numbers() != next {
		t.Errorf("%s: changed to %s\nof %s", what, tell(got), tell(was))
	}
}

// tells says what a call told that tells an error alone.
func tells(t *testing.T, what string, got, want api.Errno) {
	t.Helper()
	if got != want {
		t.Errorf("%s: %d, not %d", what, got, want)
	}
}

// sends makes a Send that must tell n and e.
func sends(t *testing.T, s *Store, id int, b string, l []api.Passed, n int, e api.Errno) {
	t.Helper()
	if gotN, gotE := s.Send(id, []byte(b), l); gotN != n || gotE != e {
		t.Errorf("Send(%d, %.9q, %v): %d and %d, not %d and %d", id, b, l, gotN, gotE, n, e)
	}
}

// recvs makes a Recv that must tell these.
func recvs(t *testing.T, s *Store, id, n, first int, b string, told, others []api.Passed, e api.Errno) {
	t.Helper()
	gotB, gotT, gotO, gotE := s.Recv(id, n, first)
	if string(gotB) != b || !samePassed(gotT, told) || !samePassed(gotO, others) || gotE != e {
		t.Errorf("Recv(%d, %d, %d): %q, %v, %v, %d, not %q, %v, %v, %d", id, n, first, gotB, gotT, gotO, gotE, b, told, others, e)
	}
}

// accepts makes an Accept that must tell these.
func accepts(t *testing.T, s *Store, id, want int, e api.Errno) {
	t.Helper()
	if got, gotE := s.Accept(id); got != want || gotE != e {
		t.Errorf("Accept(%d): %d and %d, not %d and %d", id, got, gotE, want, e)
	}
}

// shuts makes a Shut that must tell these.
func shuts(t *testing.T, s *Store, id, how int, want []api.Passed, e api.Errno) {
	t.Helper()
	if got, gotE := s.Shut(id, how); !samePassed(got, want) || gotE != e {
		t.Errorf("Shut(%d, %d): %v and %d, not %v and %d", id, how, got, gotE, want, e)
	}
}

// closes makes a Close that must tell these.
func closes(t *testing.T, s *Store, id int, want []api.Passed) {
	t.Helper()
	if got := s.Close(id); !samePassed(got, want) {
		t.Errorf("Close(%d): %v, not %v", id, got, want)
	}
}

// ready says what Ready tells, twice: it changes nothing.
func ready(t *testing.T, s *Store, what string, id int, r, w bool) {
	t.Helper()
	stays(t, s, what, func() {
		for range 2 {
			if gotR, gotW := s.Ready(id); gotR != r || gotW != w {
				t.Errorf("%s: Ready(%d): %v and %v, not %v and %v", what, id, gotR, gotW, r, w)
			}
		}
	})
}

// fresh, listens and joined answer sockets as a dump tells them.
func fresh(id, bound int) api.Sock { return api.Sock{ID: id, State: api.SockFresh, Bound: bound} }

func listens(id, bound, most int, waits ...int) api.Sock {
	return api.Sock{ID: id, State: api.SockListens, Bound: bound, Most: most, Waits: waits}
}

func joined(id, peer int, parts ...api.Part) api.Sock {
	return api.Sock{ID: id, State: api.SockJoined, Peer: peer, Parts: parts}
}

// pair answers a store with two joined sockets, 1 and 2.
func pair(bound int) *Store {
	s := New(bound)
	s.Pair()
	return s
}

// door answers a store with a socket that listens, 1, bound to 7, and at which up to n may wait.
func door(t *testing.T, bound, n int) *Store {
	t.Helper()
	s := New(bound)
	id := s.Make()
	tells(t, "Bind", s.Bind(id, 7), api.OK)
	tells(t, "Listen", s.Listen(id, n), api.OK)
	return s
}

// all answers a store with sockets of every kind: 1 is fresh, 2 is fresh and bound, none waits at 3, two wait at 4 (6 and 8, joined to 5 and 7), 9 and 10 are a pair, 11 is bound and joined to 12, which was accepted; the other end of 13 is gone.
func all(t *testing.T) *Store {
	t.Helper()
	s := New(6)
	for range 5 {
		s.Make()
	}
	for id, ino := range map[int]int{2: 20, 3: 30, 4: 40} {
		tells(t, "Bind", s.Bind(id, ino), api.OK)
	}
	tells(t, "Listen", s.Listen(3, 1), api.OK)
	tells(t, "Listen", s.Listen(4, 3), api.OK)
	tells(t, "Connect", s.Connect(5, 4), api.OK)
	s.Make()
	tells(t, "Connect", s.Connect(7, 4), api.OK)
	s.Pair()
	s.Make()
	tells(t, "Bind", s.Bind(11, 20), api.OK)
	tells(t, "Connect", s.Connect(11, 3), api.OK)
	accepts(t, s, 3, 12, api.OK)
	s.Pair()
	closes(t, s, 14, nil)
	sends(t, s, 5, "five", some(5, 6), 4, api.OK)
	sends(t, s, 9, "ni", nil, 2, api.OK)
	sends(t, s, 9, "ne", some(9), 2, api.OK)
	is(t, s, "all", 15,
		fresh(1, 0), fresh(2, 20), listens(3, 30, 1), listens(4, 40, 3, 6, 8),
		joined(5, 6), joined(6, 5, part("five", 5, 6)), joined(7, 8), joined(8, 7),
		joined(9, 10), joined(10, 9, part("ni"), part("ne", 9)),
		api.Sock{ID: 11, State: api.SockJoined, Peer: 12, Bound: 20}, joined(12, 11), joined(13, 0))
	return s
}

// P11.1: bounds, from the least to the greatest: each queue of a store has as much room as it says.
func TestNew(t *testing.T) {
	if most != 4096 || api.MaxBacklog != 8 || api.MaxPassed != 4 || api.MaxParts != 16 {
		t.Error("limits", most, api.MaxBacklog, api.MaxPassed, api.MaxParts)
	}
	if api.SockFresh != 0 || api.SockListens != 1 || api.SockJoined != 2 {
		t.Error("states", api.SockFresh, api.SockListens, api.SockJoined)
	}
	b := strings.Repeat("x", most+1)
	for bound := 1; bound <= most; bound++ {
		s := New(bound)
		if s == nil {
			t.Fatalf("New(%d): nil", bound)
		}
		if len(s.Dump()) != 0 || s.Numbers() != 1 {
			t.Errorf("New(%d): Dump %v, Numbers %d", bound, s.Dump(), s.Numbers())
		}
		s.Pair()
		for id := 1; id <= 2; id++ {
			sends(t, s, id, b, nil, bound, api.OK)
			sends(t, s, id, b, nil, 0, api.EAGAIN)
			if s.Len(3-id) != bound {
				t.Errorf("New(%d): Len %d", bound, s.Len(3-id))
			}
		}
		if bound%97 == 1 {
			recvs(t, s, 1, most+9, 0, b[:bound], nil, nil, api.OK)
			recvs(t, s, 2, most+9, 0, b[:bound], nil, nil, api.OK)
		}
	}
}

// P11.1: the room of sockets that Connect made.
func TestNewRoom(t *testing.T) {
	for _, bound := range []int{1, 2, 63, most - 1, most} {
		s := door(t, bound, 1)
		s.Make()
		tells(t, "Connect", s.Connect(2, 1), api.OK)
		b := strings.Repeat("y", most+1)
		sends(t, s, 2, b, nil, bound, api.OK)
		sends(t, s, 3, b, nil, bound, api.OK)
		recvs(t, s, 2, most+9, 0, b[:bound], nil, nil, api.OK)
		recvs(t, s, 3, most+9, 0, b[:bound], nil, nil, api.OK)
	}
}

// P11.1: bounds that are none.
func TestNewWrong(t *testing.T) {
	for _, bound := range []int{0, -1, -2, -most, most + 1, most + 2, 2 * most, math.MaxInt32, math.MinInt32, math.MaxInt, math.MinInt} {
		if New(bound) != nil {
			t.Errorf("New(%d): not nil", bound)
		}
	}
}

// P11.1: numbers go on from 1, by Make, by Pair, by Connect, and none comes twice, whatever is closed.
func TestNumbers(t *testing.T) {
	s := New(4)
	is(t, s, "new", 1)
	if id := s.Make(); id != 1 {
		t.Errorf("Make: %d", id)
	}
	is(t, s, "made", 2, fresh(1, 0))
	if one, two := s.Pair(); one != 2 || two != 3 {
		t.Errorf("Pair: %d and %d", one, two)
	}
	is(t, s, "a pair", 4, fresh(1, 0), joined(2, 3), joined(3, 2))
	tells(t, "Bind", s.Bind(1, 1), api.OK)
	tells(t, "Listen", s.Listen(1, 1), api.OK)
	if id := s.Make(); id != 4 {
		t.Errorf("Make: %d", id)
	}
	tells(t, "Connect", s.Connect(4, 1), api.OK)
	is(t, s, "connected", 6, listens(1, 1, 1, 5), joined(2, 3), joined(3, 2), joined(4, 5), joined(5, 4))
	for id := range 6 {
		s.Close(id)
	}
	is(t, s, "closed", 6)
	if one, two := s.Pair(); one != 6 || two != 7 {
		t.Errorf("Pair: %d and %d", one, two)
	}
	s.Close(7)
	if id := s.Make(); id != 8 {
		t.Errorf("Make: %d", id)
	}
	is(t, s, "made behind", 9, joined(6, 0), fresh(8, 0))
}

// P11.1: what tells an error makes no socket, so that it takes no number.
func TestNumbersOfErrors(t *testing.T) {
	s := all(t)
	stays(t, s, "errors", func() {
		for id := -1; id <= 16; id++ {
			for to := -1; to <= 16; to++ {
				if to != 3 && to != 4 {
					s.Connect(id, to)
				}
			}
			s.Connect(3, id)
			s.Connect(9, id)
		}
	})
}

// P11.1: two stores know nothing of one another.
func TestTwo(t *testing.T) {
	a, b := pair(3), pair(3)
	sends(t, a, 1, "abc", some(1), 3, api.OK)
	b.Close(1)
	is(t, a, "the one", 3, joined(1, 2), joined(2, 1, part("abc", 1)))
	is(t, b, "the other", 3, joined(2, 0))
	a.Make()
	tells(t, "Bind", a.Bind(3, 5), api.OK)
	if b.Find(5) != 0 || b.Numbers() != 3 || a.Find(5) != 3 {
		t.Error("Find", a.Find(5), b.Find(5))
	}
}

// none says what all calls with a number tell that there is no socket of; others are numbers of sockets, or not.
func none(t *testing.T, s *Store, id int, others ...int) {
	t.Helper()
	stays(t, s, fmt.Sprintf("of %d", id), func() {
		for _, ino := range []int{1, 7, 20, 0, -1} {
			tells(t, "Bind", s.Bind(id, ino), api.EINVAL)
		}
		for _, n := range []int{0, 1, 9, -1} {
			tells(t, "Listen", s.Listen(id, n), api.EINVAL)
			shuts(t, s, id, n, nil, api.EINVAL)
			recvs(t, s, id, n, n, "", nil, nil, api.EINVAL)
		}
		for _, to := range others {
			tells(t, "Connect", s.Connect(id, to), api.EINVAL)
		}
		accepts(t, s, id, 0, api.EINVAL)
		sends(t, s, id, "x", some(1), 0, api.EINVAL)
		sends(t, s, id, "", nil, 0, api.EINVAL)
		if s.Next(id) != 0 || s.Len(id) != 0 || s.State(id) != -1 || s.Bound(id) != 0 {
			t.Errorf("%d: Next %d, Len %d, State %d, Bound %d", id, s.Next(id), s.Len(id), s.State(id), s.Bound(id))
		}
		ready(t, s, "none", id, false, false)
		closes(t, s, id, nil)
	})
}

// wrongs are numbers that there is no socket of in a store with the sockets 1 to 13.
func wrongs() []int {
	return []int{0, -1, -4, -100, 14, 15, 16, 1000, math.MaxInt32, math.MinInt32, math.MaxInt, math.MinInt}
}

// P11.1, P11.6: numbers that there is no socket of: below 1, of one that is closed, of the next one, beyond.
func TestNoSocket(t *testing.T) {
	s := all(t)
	for _, id := range wrongs() {
		none(t, s, id, -1, 0, 1, 3, 4, 9, 14, id)
	}
	tells(t, "Listen", s.Listen(4, 8), api.OK)
	for id := 1; id <= 13; id++ {
		s.Close(id)
		none(t, s, id, 4, 1, id)
	}
	is(t, s, "all closed", 15)
}

// P11.1 to P11.6: of a nil store 0, EINVAL, none, false in every call; one that New did not make panics in none.
func TestNil(t *testing.T) {
	var s *Store
	for range 2 {
		for id := -1; id <= 2; id++ {
			none(t, s, id, 0, 1, 2)
			if s.Find(id) != 0 {
				t.Errorf("Find(%d): %d", id, s.Find(id))
			}
		}
		if id := s.Make(); id != 0 {
			t.Errorf("Make: %d", id)
		}
		if one, two := s.Pair(); one != 0 || two != 0 {
			t.Errorf("Pair: %d and %d", one, two)
		}
		is(t, s, "nil", 0)
		s = &Store{}
	}
}

// P11.2: Bind of every kind of socket.
func TestBind(t *testing.T) {
	s := all(t)
	stays(t, s, "wrong", func() {
		for id := -1; id <= 16; id++ {
			for _, ino := range []int{0, -1, -7, math.MinInt} {
				tells(t, fmt.Sprint("Bind of ", id), s.Bind(id, ino), api.EINVAL)
			}
			if id != 1 {
				for _, ino := range []int{1, 7, 20, 30, 40, math.MaxInt} {
					tells(t, fmt.Sprint("Bind of ", id), s.Bind(id, ino), api.EINVAL)
				}
			}
		}
	})
	tells(t, "Bind", s.Bind(1, 1), api.OK)
	if s.Bound(1) != 1 || s.State(1) != api.SockFresh || s.Find(1) != 1 {
		t.Errorf("Bound %d, State %d, Find %d", s.Bound(1), s.State(1), s.Find(1))
	}
	tells(t, "Bind again", s.Bind(1, 1), api.EINVAL)
	tells(t, "Bind again", s.Bind(1, 2), api.EINVAL)
	for _, ino := range []int{2, 20, 1, math.MaxInt} {
		id := s.Make()
		tells(t, "Bind", s.Bind(id, ino), api.OK)
		if s.Bound(id) != ino {
			t.Errorf("Bound %d, not %d", s.Bound(id), ino)
		}
	}
}

// P11.2: of sockets that are bound to one inode the one with the least number is found, whichever was bound first, and whatever it is by then.
func TestFind(t *testing.T) {
	s := New(1)
	for range 60 {
		s.Make()
	}
	for i := range 30 { // the greatest first
		tells(t, "Bind", s.Bind(60-2*i, 9), api.OK)
		if s.Find(9) != 60-2*i {
			t.Errorf("Find: %d, not %d", s.Find(9), 60-2*i)
		}
	}
	tells(t, "Bind", s.Bind(1, 8), api.OK)
	for _, ino := range []int{0, -1, 1, 2, 7, 10, math.MaxInt, math.MinInt} {
		if s.Find(ino) != 0 {
			t.Errorf("Find(%d): %d", ino, s.Find(ino))
		}
	}
	tells(t, "Listen", s.Listen(60, 1), api.OK)
	tells(t, "Listen", s.Listen(4, 1), api.OK)
	tells(t, "Connect", s.Connect(2, 60), api.OK)
	if s.Find(9) != 2 || s.Find(8) != 1 || s.Bound(2) != 9 || s.Bound(61) != 0 {
		t.Errorf("Find %d and %d, Bound %d and %d", s.Find(9), s.Find(8), s.Bound(2), s.Bound(61))
	}
	for id := 2; id <= 60; id += 2 {
		if s.Find(9) != id {
			t.Errorf("Find: %d, not %d", s.Find(9), id)
		}
		s.Close(id)
	}
	if s.Find(9) != 0 || s.Find(8) != 1 {
		t.Errorf("Find %d and %d", s.Find(9), s.Find(8))
	}
}

// P11.2: Listen of every kind of socket.
func TestListen(t *testing.T) {
	s := all(t)
	stays(t, s, "wrong", func() {
		for id := -1; id <= 16; id++ {
			for _, n := range []int{-1, -8, math.MinInt} {
				tells(t, fmt.Sprint("Listen of ", id), s.Listen(id, n), api.EINVAL)
			}
			if id < 2 || id > 4 {
				for _, n := range []int{0, 1, 8, 9} {
					tells(t, fmt.Sprint("Listen of ", id), s.Listen(id, n), api.EINVAL)
				}
			}
		}
	})
	tells(t, "Listen", s.Listen(2, 5), api.OK)
	tells(t, "Listen", s.Listen(3, 2), api.OK)
	tells(t, "Listen", s.Listen(4, 0), api.OK)
	got := s.Dump()[:4]
	want := []api.Sock{fresh(1, 0), listens(2, 20, 5), listens(3, 30, 2), listens(4, 40, 0, 6, 8)}
	if !sameSocks(got, want) {
		t.Errorf("Dump %s\nnot %s", tell(got), tell(want))
	}
}

// P11.2: how many may wait: as many as Listen says, MaxBacklog at most.
func TestListenMost(t *testing.T) {
	for _, n := range []int{0, 1, 2, 7, 8, 9, 10, 64, math.MaxInt32, math.MaxInt} {
		s := door(t, 1, n)
		for i := range min(n, 8) {
			tells(t, fmt.Sprint("Connect ", i), s.Connect(s.Make(), 1), api.OK)
		}
		last := s.Make()
		stays(t, s, "full", func() { tells(t, "Connect", s.Connect(last, 1), api.ECONNREFUSED) })
		if x := s.Dump()[0]; x.Most != min(n, 8) || len(x.Waits) != min(n, 8) {
			t.Errorf("Listen(1, %d): %d may wait, %v do", n, x.Most, x.Waits)
		}
	}
}

// P11.2, P11.3: a second Listen: those that wait stay, even if they are more than may.
func TestListenAgain(t *testing.T) {
	s := door(t, 1, 3)
	for range 3 {
		tells(t, "Connect", s.Connect(s.Make(), 1), api.OK)
	}
	stays(t, s, "below 0", func() { tells(t, "Listen", s.Listen(1, -1), api.EINVAL) })
	last := s.Make()
	for _, n := range []int{1, 0, 2, 3} {
		tells(t, "Listen", s.Listen(1, n), api.OK)
		is(t, s, fmt.Sprint("listens to ", n), 9, listens(1, 7, n, 3, 5, 7), joined(2, 3), joined(3, 2), joined(4, 5), joined(5, 4), joined(6, 7), joined(7, 6), fresh(8, 0))
		stays(t, s, "full", func() { tells(t, "Connect", s.Connect(last, 1), api.ECONNREFUSED) })
	}
	tells(t, "Listen", s.Listen(1, 1), api.OK)
	accepts(t, s, 1, 3, api.OK)
	tells(t, "Connect, two wait", s.Connect(last, 1), api.ECONNREFUSED)
	accepts(t, s, 1, 5, api.OK)
	tells(t, "Connect, one waits", s.Connect(last, 1), api.ECONNREFUSED)
	accepts(t, s, 1, 7, api.OK)
	tells(t, "Connect, none waits", s.Connect(last, 1), api.OK)
	tells(t, "Listen", s.Listen(1, 99), api.OK)
	tells(t, "Connect", s.Connect(s.Make(), 1), api.OK)
	if x := s.Dump()[0]; x.Most != 8 || !slices.Equal(x.Waits, []int{9, 11}) {
		t.Errorf("%d may wait, %v do", x.Most, x.Waits)
	}
}

// P11.3: Connect of every kind of socket to every kind, with the first of the errors.
func TestConnect(t *testing.T) {
	for to := -1; to <= 16; to++ {
		for id := -1; id <= 16; id++ {
			s := all(t)
			want := api.ECONNREFUSED
			switch {
			case id < 1 || id > 13:
				want = api.EINVAL
			case id >= 5:
				want = api.EISCONN
			case id >= 3:
				want = api.EOPNOTSUPP
			case to == 3 || to == 4:
				want = api.OK
			}
			what := fmt.Sprintf("Connect(%d, %d)", id, to)
			was := s.Dump()
			tells(t, what, s.Connect(id, to), want)
			if want == api.OK {
				was[id-1].State, was[id-1].Peer = api.SockJoined, 15
				was[to-1].Waits = append(was[to-1].Waits, 15)
				is(t, s, what, 16, append(was, joined(15, id))...)
			} else {
				is(t, s, what, 15, was...)
			}
		}
	}
}

// P11.3: Accept of every kind of socket, in the order of those that came.
func TestAccept(t *testing.T) {
	s := all(t)
	stays(t, s, "wrong", func() {
		for id := -1; id <= 16; id++ {
			if id != 3 && id != 4 {
				accepts(t, s, id, 0, api.EINVAL)
			}
		}
		accepts(t, s, 3, 0, api.EAGAIN)
	})
	was := s.Dump()
	accepts(t, s, 4, 6, api.OK)
	was[3].Waits = []int{8}
	is(t, s, "one accepted", 15, was...)
	tells(t, "Connect", s.Connect(1, 4), api.OK)
	was = s.Dump()
	accepts(t, s, 4, 8, api.OK)
	accepts(t, s, 4, 15, api.OK)
	was[3].Waits = nil
	is(t, s, "all accepted", 16, was...)
	stays(t, s, "none waits", func() { accepts(t, s, 4, 0, api.EAGAIN) })
	recvs(t, s, 6, 9, 1, "five", some(5), some(6), api.OK)
}

// P11.3: one comes, one is accepted, again and again: the order is that in which they came.
func TestAcceptRound(t *testing.T) {
	s := door(t, 1, 8)
	var came []int
	next := row(3)
	for range 400 {
		if next(2) == 0 {
			id := s.Make()
			want := api.OK
			if len(came) == 8 {
				want = api.ECONNREFUSED
			} else {
				came = append(came, id+1)
			}
			tells(t, "Connect", s.Connect(id, 1), want)
		} else if len(came) == 0 {
			accepts(t, s, 1, 0, api.EAGAIN)
		} else {
			accepts(t, s, 1, came[0], api.OK)
			came = came[1:]
		}
	}
}

// P11.3, P11.4: what is sent ahead of being accepted, both ways, is received.
func TestSendWhileWaiting(t *testing.T) {
	s := door(t, 4, 1)
	id := s.Make()
	tells(t, "Connect", s.Connect(id, 1), api.OK)
	sends(t, s, id, "hello", some(4), 4, api.OK)
	sends(t, s, id, "x", nil, 0, api.EAGAIN)
	accepts(t, s, 1, 3, api.OK)
	sends(t, s, 3, "yes", nil, 3, api.OK)
	recvs(t, s, 3, 9, 9, "hell", some(4), nil, api.OK)
	recvs(t, s, id, 9, 9, "yes", nil, nil, api.OK)
	recvs(t, s, 3, 9, 9, "", nil, nil, api.EAGAIN)
	recvs(t, s, id, 9, 9, "", nil, nil, api.EAGAIN)
}

// P11.4: sockets that are not joined neither send nor receive, and are not shut, whatever else is wrong.
func TestNotJoined(t *testing.T) {
	s := all(t)
	stays(t, s, "not joined", func() {
		for id := 1; id <= 4; id++ {
			for _, b := range []string{"x", "", "0123456789"} {
				sends(t, s, id, b, nil, 0, api.ENOTCONN)
				sends(t, s, id, b, some(1, 2, 3, 4, 5), 0, api.ENOTCONN)
			}
			for _, n := range []int{-1, 0, 1, 9} {
				recvs(t, s, id, n, 1, "", nil, nil, api.ENOTCONN)
			}
			for how := -1; how <= 3; how++ {
				shuts(t, s, id, how, nil, api.ENOTCONN)
			}
			if s.Next(id) != 0 || s.Len(id) != 0 {
				t.Errorf("%d: Next %d, Len %d", id, s.Next(id), s.Len(id))
			}
		}
	})
}

// P11.4: a pair sends and receives, both ways, and what queue.Put and queue.Take tell is told.
func TestSendRecv(t *testing.T) {
	s := New(8)
	one, two := s.Pair()
	sends(t, s, one, "hi", nil, 2, api.OK)
	is(t, s, "sent", 3, joined(1, 2), joined(2, 1, part("hi")))
	recvs(t, s, one, 9, 0, "", nil, nil, api.EAGAIN)
	recvs(t, s, two, 9, 0, "hi", nil, nil, api.OK)
	recvs(t, s, two, 9, 0, "", nil, nil, api.EAGAIN)
	stays(t, s, "Put's errors", func() {
		sends(t, s, one, "", nil, 0, api.EINVAL)
		sends(t, s, one, "", some(1), 0, api.EINVAL)
		sends(t, s, one, "x", some(1, 2, 3, 4, 5), 0, api.EINVAL)
	})
	sends(t, s, one, "abc", some(1, 2, 3, 4), 3, api.OK)
	sends(t, s, two, "back", some(9), 4, api.OK)
	sends(t, s, one, "de", nil, 2, api.OK)
	sends(t, s, one, "fghijk", some(7, 8), 3, api.OK)
	is(t, s, "both ways", 3, joined(1, 2, part("back", 9)), joined(2, 1, part("abcde", 1, 2, 3, 4), part("fgh", 7, 8)))
	stays(t, s, "full", func() {
		sends(t, s, one, "x", nil, 0, api.EAGAIN)
		sends(t, s, one, "x", some(5), 0, api.EAGAIN)
		sends(t, s, one, "", nil, 0, api.EINVAL)
		sends(t, s, one, "x", some(1, 2, 3, 4, 5), 0, api.EINVAL)
	})
	recvs(t, s, two, 2, 3, "ab", some(1, 2, 3), some(4), api.OK)
	recvs(t, s, two, 9, 3, "cde", nil, nil, api.OK)
	recvs(t, s, two, 1, -1, "f", nil, some(7, 8), api.OK)
	recvs(t, s, one, 9, 0, "back", nil, some(9), api.OK)
	is(t, s, "received", 3, joined(1, 2), joined(2, 1, part("gh")))
	recvs(t, s, two, math.MaxInt, math.MaxInt, "gh", nil, nil, api.OK)
}

// P11.4: a Recv of no bytes is none and OK, whatever waits and whatever is gone, and changes nothing.
func TestRecvNone(t *testing.T) {
	s := all(t)
	shuts(t, s, 12, 2, nil, api.OK)
	for id := 5; id <= 13; id++ {
		stays(t, s, "no bytes", func() {
			for _, n := range []int{0, -1, math.MinInt} {
				recvs(t, s, id, n, 4, "", nil, nil, api.OK)
			}
		})
	}
}

// P11.4: 16 parts with descriptors: another one with some must wait, bytes alone have room.
func TestSendParts(t *testing.T) {
	s := pair(20)
	for i := range api.MaxParts {
		sends(t, s, 2, "x", some(i), 1, api.OK)
	}
	stays(t, s, "parts", func() { sends(t, s, 2, "y", some(1), 0, api.EAGAIN) })
	ready(t, s, "parts", 2, false, true)
	sends(t, s, 2, "yz", nil, 2, api.OK)
	recvs(t, s, 1, 9, 1, "x", some(0), nil, api.OK)
	sends(t, s, 2, "w", some(1), 1, api.OK)
}

// P11.4: the other end is closed: what waits is received, then nothing comes any more; nothing can be sent.
func TestOtherClosed(t *testing.T) {
	s := pair(4)
	sends(t, s, 1, "abc", some(1, 2), 3, api.OK)
	sends(t, s, 1, "d", some(3), 1, api.OK)
	closes(t, s, 1, nil)
	is(t, s, "closed", 3, joined(2, 0, part("abc", 1, 2), part("d", 3)))
	ready(t, s, "closed", 2, true, true)
	stays(t, s, "no other end", func() {
		sends(t, s, 2, "x", nil, 0, api.EPIPE)
		sends(t, s, 2, "", nil, 0, api.EPIPE)
		sends(t, s, 2, "x", some(1, 2, 3, 4, 5), 0, api.EPIPE)
	})
	recvs(t, s, 2, 2, 1, "ab", some(1), some(2), api.OK)
	recvs(t, s, 2, 2, 1, "c", nil, nil, api.OK)
	recvs(t, s, 2, 2, 1, "d", some(3), nil, api.OK)
	for range 2 {
		recvs(t, s, 2, 2, 1, "", nil, nil, api.OK)
		ready(t, s, "empty", 2, true, true)
	}
	tells(t, "Connect", s.Connect(2, 2), api.EISCONN)
	is(t, s, "empty", 3, joined(2, 0))
	shuts(t, s, 2, 1, nil, api.OK)
	shuts(t, s, 2, 0, nil, api.OK)
	sends(t, s, 2, "x", nil, 0, api.EPIPE)
	recvs(t, s, 2, 2, 1, "", nil, nil, api.OK)
	closes(t, s, 2, nil)
	is(t, s, "both closed", 3)
}

// P11.4, P11.5: one end is shut, in each way: what both can do then, with bytes that wait and without.
func TestShut(t *testing.T) {
	for _, x := range []struct {
		how        int
		one, two   api.Errno // what Send tells
		told       []api.Passed
		oneB, twoB string
		oneE, twoE api.Errno // what Recv tells where nothing waits
	}{
		{0, api.OK, api.EPIPE, some(1, 2, 3), "", "xy", api.OK, api.EAGAIN},
		{1, api.EPIPE, api.OK, nil, "ab", "xy", api.EAGAIN, api.OK},
		{2, api.EPIPE, api.EPIPE, some(1, 2, 3), "", "xy", api.OK, api.OK},
	} {
		what := fmt.Sprint("shut ", x.how)
		s := pair(9)
		sends(t, s, 2, "ab", some(1, 2), 2, api.OK)
		sends(t, s, 2, "c", some(3), 1, api.OK)
		sends(t, s, 1, "xy", some(8), 2, api.OK)
		shuts(t, s, 1, x.how, x.told, api.OK)
		one := joined(1, 2)
		if x.how == 1 {
			one.Parts = parts(part("ab", 1, 2), part("c", 3))
		}
		one.ShutR, one.ShutW = x.how != 1, x.how != 0
		is(t, s, what, 3, one, joined(2, 1, part("xy", 8)))
		shuts(t, s, 1, x.how, nil, api.OK)
		is(t, s, what+" again", 3, one, joined(2, 1, part("xy", 8)))
		if x.how == 1 {
			recvs(t, s, 1, 9, 2, "ab", some(1, 2), nil, api.OK)
			recvs(t, s, 1, 9, 2, "c", some(3), nil, api.OK)
		}
		recvs(t, s, 2, 9, 2, "xy", some(8), nil, api.OK)
		recvs(t, s, 1, 9, 2, "", nil, nil, x.oneE)
		recvs(t, s, 2, 9, 2, "", nil, nil, x.twoE)
		ready(t, s, what, 1, x.oneE == api.OK, true)
		ready(t, s, what, 2, x.twoE == api.OK, true)
		if x.one == api.EPIPE {
			stays(t, s, what, func() {
				sends(t, s, 1, "", some(1, 2, 3, 4, 5), 0, api.EPIPE)
				sends(t, s, 1, "q", nil, 0, api.EPIPE)
			})
		} else {
			sends(t, s, 1, "q", nil, 1, api.OK)
			recvs(t, s, 2, 9, 2, "q", nil, nil, api.OK)
		}
		if x.two == api.EPIPE {
			stays(t, s, what, func() {
				sends(t, s, 2, "", some(1, 2, 3, 4, 5), 0, api.EPIPE)
				sends(t, s, 2, "q", nil, 0, api.EPIPE)
			})
		} else {
			sends(t, s, 2, "q", nil, 1, api.OK)
			recvs(t, s, 1, 9, 2, "q", nil, nil, api.OK)
		}
	}
}

// P11.5: ways to shut that are none, of sockets of every kind; not joined comes ahead.
func TestShutWrong(t *testing.T) {
	s := all(t)
	stays(t, s, "wrong", func() {
		for _, how := range []int{-1, 3, 4, -2, math.MaxInt, math.MinInt} {
			for id := 5; id <= 13; id++ {
				shuts(t, s, id, how, nil, api.EINVAL)
			}
			for id := 1; id <= 4; id++ {
				shuts(t, s, id, how, nil, api.ENOTCONN)
			}
		}
	})
}

// P11.5: one shut after the other, all rows of two at one end: what is shut stays shut.
func TestShutTwice(t *testing.T) {
	for first := range 3 {
		for second := range 3 {
			s := pair(2)
			shuts(t, s, 2, first, nil, api.OK)
			shuts(t, s, 2, second, nil, api.OK)
			want := joined(2, 1)
			want.ShutR, want.ShutW = first != 1 || second != 1, first != 0 || second != 0
			is(t, s, fmt.Sprint(first, second), 3, joined(1, 2), want)
		}
	}
}

// P11.5: all that was passed is told, in order: 16 parts of 4 each; of a socket that waits, too.
func TestShutPassed(t *testing.T) {
	for how := 0; how <= 2; how += 2 {
		s := door(t, 16, 1)
		tells(t, "Connect", s.Connect(s.Make(), 1), api.OK)
		var passed []api.Passed
		for i := range api.MaxParts {
			l := some(50-4*i, 51-4*i, 52-4*i, 53-4*i)
			sends(t, s, 2, "x", l, 1, api.OK)
			passed = append(passed, l...)
		}
		shuts(t, s, 3, how, passed, api.OK)
		want := joined(3, 2)
		want.ShutR, want.ShutW = true, how == 2
		is(t, s, "shut", 4, listens(1, 7, 1, 3), joined(2, 3), want)
		accepts(t, s, 1, 3, api.OK)
		is(t, s, "accepted", 4, listens(1, 7, 1), joined(2, 3), want)
		closes(t, s, 3, nil)
	}
}

// P11.5: Ready of each kind of socket.
func TestReady(t *testing.T) {
	s := all(t)
	ready(t, s, "fresh", 1, false, false)
	ready(t, s, "fresh and bound", 2, false, false)
	ready(t, s, "listens, none waits", 3, false, false)
	ready(t, s, "listens, two wait", 4, true, false)
	ready(t, s, "nothing waits", 5, false, true)
	ready(t, s, "bytes wait, not accepted", 6, true, true)
	ready(t, s, "bytes wait", 10, true, true)
	ready(t, s, "the other end is gone", 13, true, true)
	accepts(t, s, 4, 6, api.OK)
	ready(t, s, "listens, one waits", 4, true, false)
	accepts(t, s, 4, 8, api.OK)
	ready(t, s, "listens, all accepted", 4, false, false)
	tells(t, "Listen", s.Listen(3, 0), api.OK)
	ready(t, s, "listens, none may wait", 3, false, false)
}

// P11.5: Ready of joined sockets with queues that are empty, begun and full, on both sides.
func TestReadyJoined(t *testing.T) {
	for _, bound := range []int{1, 2, 7, most} {
		for _, one := range []int{0, 1, bound - 1, bound} {
			for _, two := range []int{0, 1, bound - 1, bound} {
				s := pair(bound)
				s.Send(1, make([]byte, two), nil)
				s.Send(2, make([]byte, one), nil)
				ready(t, s, "queues", 1, one > 0, two < bound)
				ready(t, s, "queues", 2, two > 0, one < bound)
				shuts(t, s, 1, 1, nil, api.OK)
				ready(t, s, "the writer is shut", 1, one > 0, true)
				ready(t, s, "its reader", 2, true, one < bound)
				shuts(t, s, 1, 0, nil, api.OK)
				ready(t, s, "the reader is shut", 1, true, true)
				ready(t, s, "its writer", 2, true, true)
				closes(t, s, 1, nil)
				ready(t, s, "the other end is gone", 2, true, true)
			}
		}
	}
}

// P11.5: what Ready tells is what Recv and Send of one byte come to, in all ways of shutting, closing and filling.
func TestReadyAsTold(t *testing.T) {
	for ways := range 1 << 8 {
		made := func() *Store {
			s := pair(2)
			if ways&3 > 0 {
				s.Send(1, []byte("xyz")[:ways&3], some(1))
			}
			if ways>>2&3 > 0 {
				s.Send(2, []byte("xyz")[:ways>>2&3], some(2))
			}
			for i := range 4 {
				if ways>>(4+i)&1 != 0 {
					s.Shut(1+i/2, i%2)
				}
			}
			return s
		}
		for id := 1; id <= 2; id++ {
			for closed := range 2 {
				reads, writes, s := made(), made(), made()
				for _, x := range []*Store{reads, writes, s} {
					if closed == 1 {
						x.Close(3 - id)
					}
				}
				_, _, _, r := reads.Recv(id, 1, 0)
				_, w := writes.Send(id, []byte("b"), nil)
				ready(t, s, fmt.Sprintf("ways %x, closed %d", ways, closed), id, r != api.EAGAIN, w != api.EAGAIN)
			}
		}
	}
}

// P11.6: Close of each kind of socket: it is gone, and its other end has none.
func TestClose(t *testing.T) {
	for id := 1; id <= 13; id++ {
		if id == 4 || id == 6 || id == 8 {
			continue // those have tests of their own
		}
		s := all(t)
		var want []api.Sock
		var passed []api.Passed
		for _, x := range s.Dump() {
			if x.Peer == id {
				x.Peer = 0
			}
			if x.ID != id {
				want = append(want, x)
				continue
			}
			for _, p := range x.Parts {
				passed = append(passed, p.L...)
			}
		}
		closes(t, s, id, passed)
		is(t, s, fmt.Sprint("closed ", id), 15, want...)
		none(t, s, id, 3, 4, id)
	}
}

// P11.6: Close of a socket that listens: those that wait are gone, too, and their other ends' other ends.
func TestCloseListens(t *testing.T) {
	s := door(t, 9, 4)
	for range 4 {
		tells(t, "Connect", s.Connect(s.Make(), 1), api.OK)
	}
	sends(t, s, 8, "h", some(80), 1, api.OK)
	sends(t, s, 4, "de", some(42, 41), 2, api.OK)
	sends(t, s, 4, "f", some(40), 1, api.OK)
	sends(t, s, 2, "ab", some(20), 2, api.OK)
	sends(t, s, 5, "to 4", some(99), 4, api.OK)
	shuts(t, s, 7, 1, nil, api.OK)
	accepts(t, s, 1, 3, api.OK)
	closes(t, s, 1, some(42, 41, 40, 80))
	is(t, s, "closed", 10, joined(2, 3), joined(3, 2, part("ab", 20)), joined(4, 0, part("to 4", 99)), joined(6, 0), joined(8, 0))
	for _, id := range []int{1, 5, 7, 9} {
		none(t, s, id, 1, 5)
	}
	if s.Find(7) != 0 {
		t.Errorf("Find: %d", s.Find(7))
	}
	for _, id := range []int{4, 6, 8} {
		sends(t, s, id, "x", nil, 0, api.EPIPE)
		ready(t, s, "its other end is gone", id, true, true)
	}
	recvs(t, s, 4, 9, 9, "to 4", some(99), nil, api.OK)
	recvs(t, s, 4, 9, 9, "", nil, nil, api.OK)
	recvs(t, s, 6, 9, 9, "", nil, nil, api.OK)
	tells(t, "Connect", s.Connect(s.Make(), 1), api.ECONNREFUSED)
}

// P11.6: Close of one that listens while MaxBacklog wait, all with descriptors, in the order in which they wait.
func TestCloseBacklog(t *testing.T) {
	s := door(t, 9, 8)
	var passed []api.Passed
	for i := range 8 {
		id := s.Make()
		tells(t, "Connect", s.Connect(id, 1), api.OK)
		l := some(90-2*i, 91-2*i)
		sends(t, s, id, "x", l, 1, api.OK)
		passed = append(passed, l...)
	}
	closes(t, s, 1, passed)
	var want []api.Sock
	for id := 2; id < 18; id += 2 {
		want = append(want, joined(id, 0))
	}
	is(t, s, "closed", 18, want...)
}

// P11.6: one whose other end is closed while it waits still waits; one that is closed itself waits no more.
func TestCloseWaits(t *testing.T) {
	s := door(t, 9, 3)
	for range 3 {
		tells(t, "Connect", s.Connect(s.Make(), 1), api.OK)
	}
	sends(t, s, 2, "ab", some(20), 2, api.OK)
	sends(t, s, 4, "cd", some(40, 41), 2, api.OK)
	closes(t, s, 2, nil)
	is(t, s, "the other end", 8, listens(1, 7, 3, 3, 5, 7), joined(3, 0, part("ab", 20)), joined(4, 5), joined(5, 4, part("cd", 40, 41)), joined(6, 7), joined(7, 6))
	closes(t, s, 5, some(40, 41))
	is(t, s, "one that waits", 8, listens(1, 7, 3, 3, 7), joined(3, 0, part("ab", 20)), joined(4, 0), joined(6, 7), joined(7, 6))
	tells(t, "Connect", s.Connect(s.Make(), 1), api.OK)
	accepts(t, s, 1, 3, api.OK)
	recvs(t, s, 3, 9, 9, "ab", some(20), nil, api.OK)
	closes(t, s, 7, nil)
	accepts(t, s, 1, 9, api.OK)
	accepts(t, s, 1, 0, api.EAGAIN)
	ready(t, s, "none waits", 1, false, false)
	closes(t, s, 9, nil)
	is(t, s, "accepted and closed", 10, listens(1, 7, 3), joined(3, 0), joined(4, 0), joined(6, 0), joined(8, 0))
}

// P11.6: Dump tells sockets by their numbers, and changes nothing.
func TestDump(t *testing.T) {
	s := New(2)
	var want []api.Sock
	for id := 1; id <= 200; id++ {
		s.Make()
		if id%3 != 0 {
			want = append(want, fresh(id, 0))
		}
	}
	for id := 198; id > 0; id -= 3 {
		s.Close(id)
	}
	for range 3 {
		is(t, s, "by numbers", 201, want...)
	}
}

// P11.7: each one is the other one's Peer, from Pair and from Connect, until one is closed.
func TestTwoEnds(t *testing.T) {
	s := door(t, 1, 1)
	one, two := s.Pair()
	id := s.Make()
	tells(t, "Connect", s.Connect(id, 1), api.OK)
	is(t, s, "two ends", 6, listens(1, 7, 1, 5), joined(2, 3), joined(3, 2), joined(4, 5), joined(5, 4))
	shuts(t, s, one, 2, nil, api.OK)
	s.Close(two)
	accepts(t, s, 1, 5, api.OK)
	s.Close(4)
	want := joined(2, 0)
	want.ShutR, want.ShutW = true, true
	is(t, s, "one end", 6, listens(1, 7, 1), want, joined(5, 0))
}

// spoil changes what is passed, down to its whitelists, and all spare room.
func spoil(l []api.Passed) {
	l = l[:cap(l)]
	for i := range l {
		cmds := l[i].Ioctls.L[:cap(l[i].Ioctls.L)]
		for k := range cmds {
			cmds[k] = -1
		}
		l[i] = api.Passed{File: -1}
	}
}

// spoilBytes changes bytes, and their spare room.
func spoilBytes(b []byte) {
	b = b[:cap(b)]
	for i := range b {
		b[i] = '!'
	}
}

// spoilSocks changes a dump, all it has, and all spare room.
func spoilSocks(l []api.Sock) {
	l = l[:cap(l)]
	for i := range l {
		waits := l[i].Waits[:cap(l[i].Waits)]
		for k := range waits {
			waits[k] = -1
		}
		parts := l[i].Parts[:cap(l[i].Parts)]
		for k := range parts {
			spoilBytes(parts[k].B)
			spoil(parts[k].L)
			parts[k] = part("spoilt", 66)
		}
		l[i] = api.Sock{ID: -1}
	}
}

// Memory: what is handed in is neither changed nor kept, its spare room included.
func TestHandedIn(t *testing.T) {
	s := pair(9)
	bytes, handed := []byte("abcdefgh"), some(1, 2, 4, 5)
	if n, e := s.Send(1, bytes[:3], handed[:2]); n != 3 || e != api.OK {
		t.Error("Send", n, e)
	}
	if n, e := s.Send(1, bytes[3:5], nil); n != 2 || e != api.OK {
		t.Error("Send", n, e)
	}
	if string(bytes) != "abcdefgh" || !samePassed(handed, some(1, 2, 4, 5)) {
		t.Errorf("changed: %q, %v", bytes, handed)
	}
	spoilBytes(bytes)
	spoil(handed)
	is(t, s, "kept", 3, joined(1, 2), joined(2, 1, part("abcde", 1, 2)))
	s.Recv(2, 2, 1)
	sends(t, s, 1, "uvwxyz", some(7), 6, api.OK)
	if string(bytes) != "!!!!!!!!" || handed[0].File != -1 {
		t.Errorf("changed later: %q, %v", bytes, handed)
	}
}

// Memory: an answer is new: what is done to it does not reach the store or another answer.
func TestHandedOut(t *testing.T) {
	s := all(t)
	one, two := s.Dump(), s.Dump()
	spoilSocks(one)
	if !sameSocks(two, s.Dump()) {
		t.Errorf("spoilt: %s\nthe store: %s", tell(two), tell(s.Dump()))
	}
	is(t, s, "spoilt", 15, two...)
	tells(t, "Connect", s.Connect(1, 4), api.OK)
	if len(two[3].Waits) != 2 || !slices.Equal(s.Dump()[3].Waits, []int{6, 8, 15}) {
		t.Errorf("waits: %v, %v", two[3].Waits, s.Dump()[3].Waits)
	}
	accepts(t, s, 4, 6, api.OK)
	if !slices.Equal(two[3].Waits, []int{6, 8}) {
		t.Errorf("waits: %v", two[3].Waits)
	}
	b, told, others, _ := s.Recv(6, 3, 1)
	spoil(told)
	if !samePassed(others, some(6)) {
		t.Errorf("the others are spoilt: %v", others)
	}
	spoil(others)
	spoilBytes(b)
	recvs(t, s, 6, 9, 9, "e", nil, nil, api.OK)
	shut, _ := s.Shut(10, 2)
	spoil(shut)
	if !samePassed(two[9].Parts[1].L, some(9)) || string(two[5].Parts[0].B) != "five" {
		t.Errorf("spoilt: %s", tell(two))
	}
	sends(t, s, 7, "x", some(1, 2), 1, api.OK)
	sends(t, s, 1, "y", some(4), 1, api.OK)
	closed := s.Close(4)
	again := some(1, 2, 4)
	if !samePassed(closed, again) {
		t.Errorf("Close: %v", closed)
	}
	sends(t, s, 5, "z", some(7), 1, api.OK)
	spoil(closed)
	recvs(t, s, 6, 9, 9, "z", some(7), nil, api.OK)
}
