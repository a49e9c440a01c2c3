package kernel

import (
	"fmt"
	"slices"
	"testing"

	"purlieu/api"
	"purlieu/world"
)

// script is rows of steps from a new world on.
type script struct {
	what string
	l    api.Limits
	rows []row
}

// plays does each of them.
func plays(t *testing.T, l []script) {
	t.Helper()
	for _, x := range l {
		t.Run(x.what, func(t *testing.T) {
			if x.l.Procs == 0 {
				x.l = few
			}
			play(t, world.New(x.l), x.rows)
		})
	}
}

// nonblocking sets that a descriptor's open file is not to wait, by fcntl.
func nonblocking(fd int) api.Req { return asks(fcntl, fd, 4, api.ONonblock) }

// P24.2, P24.5: what waits at a pipe is done when there is something there, and not ahead of that.
func TestPipesWait(t *testing.T) {
	plays(t, []script{
		{what: "read", rows: []row{
			{1, asks(pipe), "done [0 1]"},
			{1, asks(fork), "done 2"},
			{2, asks(read, 0, 9), "parked"},
			{2, asks(read, 0, 9), "parked"},
			{2, asks(read, 0, 1), "parked"},
			{2, asks(getpid), "parked"},
			{2, asks(99), "parked"},
			{2, says(write, "self", 1), "parked"},
			{1, says(write, "ab", 1), "done 2"},
			{2, asks(read, 0, 1), "woken 2 ab"},
			{2, asks(getpid), "done 2"},
			{2, asks(read, 0, 1), "parked"},
			{1, says(write, "cd", 1), "done 2"},
			{2, asks(read, 0, 9), "woken 1 c"},
			{2, asks(read, 0, 9), "done 1 d"},
		}},
		{what: "read, and the writing end goes", rows: []row{
			{1, asks(pipe), "done [0 1]"},
			{1, asks(fork), "done 2"},
			{2, asks(shut, 1), "done"},
			{2, asks(read, 0, 9), "parked"},
			{1, asks(dup, 1), "done 2"},
			{1, asks(shut, 1), "done"},
			{2, anything, "parked"},
			{1, asks(shut, 2), "done"},
			{2, anything, "woken"},
			{2, asks(read, 0, 9), "done"},
		}},
		{what: "write", rows: []row{
			{1, asks(pipe), "done [0 1]"},
			{1, asks(fork), "done 2"},
			{1, says(write, "abcdef", 1), "done 4"},
			{1, says(write, "gh", 1), "parked"},
			{1, says(write, "i", 1), "parked"},
			{1, asks(exit), "parked"},
			{2, asks(read, 0, 1), "done 1 a"},
			{1, anything, "woken 1"},
			{2, asks(read, 0, 9), "done 4 bcdg"},
			{1, anything, "done 1"},
		}},
		{what: "write, and the reading end goes", rows: []row{
			{1, asks(pipe), "done [0 1]"},
			{1, asks(fork), "done 2"},
			{1, asks(shut, 0), "done"},
			{1, says(write, "abcd", 1), "done 4"},
			{1, says(write, "e", 1), "parked"},
			{2, asks(exit, 0), "done"},
			{1, anything, "woken error 32"},
			{1, anything, "done 1"},
			{1, says(write, "e", 1), "done error 32"},
		}},
		{what: "read, and another one says that its open file is not to wait", rows: []row{
			{1, asks(pipe), "done [0 1]"},
			{1, asks(fork), "done 2"},
			{2, asks(read, 0, 9), "parked"},
			{1, nonblocking(1), "done"},
			{2, anything, "parked"},
			{1, nonblocking(0), "done"},
			{2, asks(read, 0, 9), "woken error 35"},
			{2, asks(read, 0, 9), "done error 35"},
			{1, asks(fcntl, 0, 4, 0), "done"},
			{2, asks(read, 0, 9), "parked"},
		}},
		{what: "two read", rows: []row{
			{1, asks(pipe), "done [0 1]"},
			{1, asks(fork), "done 2"},
			{1, asks(fork), "done 3"},
			{2, asks(read, 0, 2), "parked"},
			{3, asks(read, 0, 9), "parked"},
			{1, says(write, "ab", 1), "done 2"},
			{3, anything, "woken 2 ab"},
			{2, anything, "parked"},
			{3, anything, "done 3"},
			{1, says(write, "cde", 1), "done 3"},
			{3, asks(read, 0, 2), "done 2 cd"},
			{2, anything, "woken 1 e"},
		}},
		{what: "two write", rows: []row{
			{1, asks(pipe), "done [0 1]"},
			{1, asks(fork), "done 2"},
			{1, asks(fork), "done 3"},
			{1, says(write, "abcd", 1), "done 4"},
			{2, says(write, "ef", 1), "parked"},
			{3, says(write, "gh", 1), "parked"},
			{1, asks(read, 0, 3), "done 3 abc"},
			{2, anything, "woken 2"},
			{3, anything, "woken 1"},
			{1, asks(read, 0, 9), "done 4 defg"},
		}},
		{what: "all wait, for one another", rows: []row{
			{1, asks(pipe), "done [0 1]"},
			{1, asks(fork), "done 2"},
			{1, asks(read, 0, 9), "parked"},
			{2, asks(read, 0, 9), "parked"},
			{1, says(write, "a", 1), "parked"},
			{2, says(write, "a", 1), "parked"},
		}},
	})
}

// P24.2, P24.5: likewise of sockets.
func TestSocketsWait(t *testing.T) {
	plays(t, []script{
		{what: "accept, and connect's other end", rows: []row{
			{1, asks(sock), "done"},
			{1, says(bind, "s", 0), "done"},
			{1, asks(listen, 0, 1), "done"},
			{1, asks(fork), "done 2"},
			{1, asks(accept, 0), "parked"},
			{1, asks(accept, 0, api.ONonblock), "parked"},
			{2, asks(sock), "done 1"},
			{1, anything, "parked"},
			{2, says(connect, "s", 1), "done"},
			{2, asks(recv, 1, 9, 4), "parked"},
			{1, asks(shut, 0), "woken 1"},
			{2, anything, "parked"},
			{1, says(send, "hi", 1), "done 2"},
			{2, anything, "woken 2 hi"},
			{1, asks(fcntl, 1, 3), "done 2"},
		}},
		{what: "two accept", rows: []row{
			{1, asks(sock), "done"},
			{1, says(bind, "s", 0), "done"},
			{1, asks(listen, 0, 2), "done"},
			{1, asks(fork), "done 2"},
			{1, asks(fork), "done 3"},
			{1, asks(accept, 0), "parked"},
			{2, asks(accept, 0), "parked"},
			{3, asks(sock), "done 1"},
			{3, says(connect, "s", 1), "done"},
			{2, anything, "woken 1"},
			{1, anything, "parked"},
		}},
		{what: "accept, and there is no room for an open file", l: api.Limits{Procs: 2, Fds: 9, Files: 3, Inodes: 4, Blocks: 4, Pipe: 4, Sock: 4}, rows: []row{
			{1, asks(sock), "done"},
			{1, says(bind, "s", 0), "done"},
			{1, asks(listen, 0, 1), "done"},
			{1, asks(fork), "done 2"},
			{1, asks(accept, 0), "parked"},
			{2, asks(sock), "done 1"},
			{2, says(connect, "s", 1), "done"},
			{2, asks(sock), "done 2"},
			{1, anything, "woken error 23"},
			{2, asks(shut, 2), "done"},
			{1, asks(accept, 0), "done 1"},
		}},
		{what: "recv, with what was passed", rows: []row{
			{1, asks(pair), "done [0 1]"},
			{1, asks(fork), "done 2"},
			{2, asks(recv, 1, 9, 4), "parked"},
			{2, asks(shut, 1), "parked"},
			{1, gives(0, 0, 1), "done 1"},
			{2, anything, "woken 1 x [2 3]"},
			{2, asks(recv, 3, 9), "parked"},
			{1, says(send, "y", 0), "done 1"},
			{2, anything, "woken 1 y"},
		}},
		{what: "recv, and there is no room for what was passed", l: api.Limits{Procs: 2, Fds: 2, Files: 9, Inodes: 4, Blocks: 4, Pipe: 4, Sock: 4}, rows: []row{
			{1, asks(pair), "done [0 1]"},
			{1, asks(fork), "done 2"},
			{1, asks(recv, 0, 9, 4), "parked"},
			{2, gives(1, 0), "done 1"},
			{1, anything, "woken error 24"},
			{1, asks(recv, 0, 9, 4), "done error 24"},
			{1, asks(recv, 0, 9), "done 1 x"},
		}},
		{what: "recv, and the other end goes", rows: []row{
			{1, asks(pair), "done [0 1]"},
			{1, asks(fork), "done 2"},
			{1, asks(shut, 1), "done"},
			{1, asks(recv, 0, 9), "parked"},
			{2, asks(exit, 0), "done"},
			{1, anything, "woken"},
		}},
		{what: "recv, which another one shuts", rows: []row{
			{1, asks(pair), "done [0 1]"},
			{1, asks(fork), "done 2"},
			{1, asks(recv, 0, 9), "parked"},
			{2, asks(shutdown, 0, 0), "done"},
			{1, anything, "woken"},
		}},
		{what: "read and write of a socket", rows: []row{
			{1, asks(pair), "done [0 1]"},
			{1, asks(fork), "done 2"},
			{1, asks(read, 0, 9), "parked"},
			{2, says(write, "abcd", 1), "done 4"},
			{2, says(write, "e", 1), "parked"},
			{1, anything, "woken 4 abcd"},
			{2, anything, "woken 1"},
			{1, asks(read, 0, 9), "done 1 e"},
		}},
		{what: "send", rows: []row{
			{1, asks(pair), "done [0 1]"},
			{1, asks(fork), "done 2"},
			{1, says(send, "abcd", 0), "done 4"},
			{1, gives(0, 0), "parked"},
			{1, asks(shut, 0), "parked"},
			{2, asks(recv, 1, 3), "done 3 abc"},
			{1, anything, "woken 1"},
			{2, asks(recv, 1, 1, 1), "done 1 d"},
			{2, asks(recv, 1, 9, 1), "done 1 x [2]"},
		}},
		{what: "send, and the other end goes", rows: []row{
			{1, asks(pair), "done [0 1]"},
			{1, asks(fork), "done 2"},
			{1, asks(shut, 1), "done"},
			{1, says(send, "abcd", 0), "done 4"},
			{1, gives(0, 0), "parked"},
			{2, asks(shut, 1), "done"},
			{1, anything, "woken error 32"},
			{1, gives(0, 0), "done error 32"},
		}},
		{what: "send and recv, and another one says that the open file is not to wait", rows: []row{
			{1, asks(pair), "done [0 1]"},
			{1, asks(fork), "done 2"},
			{1, asks(fork), "done 3"},
			{2, asks(recv, 0, 9), "parked"},
			{1, says(send, "abcd", 0), "done 4"},
			{3, says(send, "e", 0), "parked"},
			{1, nonblocking(0), "done"},
			{2, anything, "woken error 35"},
			{3, anything, "woken error 35"},
		}},
	})
}

// P24.2, P24.5: likewise of processes.
func TestProcessesWait(t *testing.T) {
	plays(t, []script{
		{what: "wait", rows: []row{
			{1, asks(fork), "done 2"},
			{1, asks(wait, -1, 0), "parked"},
			{1, asks(wait, -1, 1), "parked"},
			{1, asks(fork), "parked"},
			{2, asks(exit, 5), "done"},
			{2, asks(exit, 5), "idle"},
			{1, anything, "woken 2 [5]"},
			{1, asks(wait, -1, 0), "done error 10"},
		}},
		{what: "wait for one", rows: []row{
			{1, asks(fork), "done 2"},
			{1, asks(fork), "done 3"},
			{1, asks(wait, 3, 0), "parked"},
			{2, asks(exit, 1), "done"},
			{1, anything, "parked"},
			{3, asks(exit, 7), "done"},
			{1, anything, "woken 3 [7]"},
			{1, asks(wait, 0, 0), "done 2 [1]"},
		}},
		{what: "wait for one that another one is the parent of at first", rows: []row{
			{1, asks(fork), "done 2"},
			{2, asks(fork), "done 3"},
			{1, asks(wait, -1, 0), "parked"},
			{3, asks(exit, 4), "done"},
			{1, anything, "parked"},
			{2, asks(exit, 6), "done"},
			{1, anything, "woken 2 [6]"},
			{1, asks(wait, -1, 0), "done 3 [4]"},
		}},
		{what: "pdwait", rows: []row{
			{1, asks(pdfork), "done"},
			{1, asks(pdwait, 0, 0), "parked"},
			{1, asks(pdkill, 0, 9), "parked"},
			{2, asks(exit, 3), "done"},
			{1, asks(pdkill, 0, 9), "woken 1 [3]"},
			{1, asks(pdwait, 0, 0), "done error 3"},
		}},
		{what: "two pdwait, and one of them reaps it", rows: []row{
			{1, asks(pdfork), "done"},
			{1, asks(fork), "done 3"},
			{1, asks(pdwait, 0, 0), "parked"},
			{3, asks(pdwait, 0, 0), "parked"},
			{2, asks(exit, 0), "done"},
			{3, anything, "woken 1 [0]"},
			{1, anything, "woken error 3"},
		}},
		{what: "a parent ends whose child waits", rows: []row{
			{1, asks(pipe), "done [0 1]"},
			{1, asks(fork), "done 2"},
			{2, asks(fork), "done 3"},
			{3, asks(read, 0, 1), "parked"},
			{2, asks(exit, 0), "done"},
			{3, asks(getppid), "parked"},
			{1, says(write, "a", 1), "done 1"},
			{3, asks(getppid), "woken 1 a"},
			{3, asks(getppid), "done 1"},
		}},
		{what: "a child of one that waited does not wait", rows: []row{
			{1, asks(pipe), "done [0 1]"},
			{1, asks(fork), "done 2"},
			{2, asks(read, 0, 1), "parked"},
			{1, asks(fork), "done 3"},
			{3, says(write, "a", 1), "done 1"},
			{2, anything, "woken 1 a"},
			{2, asks(fork), "done 4"},
			{4, asks(getpid), "done 4"},
		}},
	})
}

// P24.2, P24.5: likewise of polls.
func TestPollsWait(t *testing.T) {
	plays(t, []script{
		{what: "to be read", rows: []row{
			{1, asks(pipe), "done [0 1]"},
			{1, asks(pair), "done 2 [2 3]"},
			{1, asks(fork), "done 2"},
			{2, lists(poll, []int{0, 1, 2, 1, 1, 1}), "parked"},
			{2, lists(poll, []int{0, 1}, 1), "parked"},
			{1, says(send, "a", 3), "done 1"},
			{2, lists(poll, []int{0, 1}, 1), "woken 1 [0 1 0]"},
			{2, lists(poll, []int{0, 1}, 1), "done [0]"},
			{1, says(write, "a", 1), "done 1"},
			{2, lists(poll, []int{0, 1, 2, 3}), "done 2 [1 3]"},
		}},
		{what: "to be written", rows: []row{
			{1, asks(pipe), "done [0 1]"},
			{1, asks(fork), "done 2"},
			{1, says(write, "abcd", 1), "done 4"},
			{2, lists(poll, []int{1, 3}), "parked"},
			{1, asks(read, 0, 0), "done"},
			{2, anything, "parked"},
			{1, asks(read, 0, 1), "done 1 a"},
			{2, anything, "woken 1 [2]"},
		}},
		{what: "what was there is gone when it is picked", rows: []row{
			{1, asks(pipe), "done [0 1]"},
			{1, asks(fork), "done 2"},
			{2, lists(poll, []int{0, 1}), "parked"},
			{1, says(write, "a", 1), "done 1"},
			{1, asks(read, 0, 1), "done 1 a"},
			{2, anything, "parked"},
		}},
		{what: "one that ends, or another end that goes", rows: []row{
			{1, asks(pdfork), "done"},
			{1, asks(pipe), "done 1 [1 2]"},
			{1, asks(fork), "done 3"},
			{3, asks(shut, 2), "done"},
			{3, lists(poll, []int{0, 1, 1, 1}), "parked"},
			{2, asks(exit, 0), "done"},
			{3, anything, "woken 1 [1 0]"},
			{3, lists(poll, []int{1, 1}), "parked"},
			{1, asks(shut, 2), "done"},
			{3, anything, "woken 1 [1]"},
		}},
		{what: "one that may not be looked at does not wait", rows: []row{
			{1, asks(pipe), "done [0 1]"},
			{1, lists(limit, []int{1<<57 + int(api.CapRead), 1 << 58}, 0), "done"},
			{1, lists(poll, []int{0, 1}), "done error 93"},
			{1, asks(read, 0, 1), "parked"},
		}},
	})
}

// P24.2, P24.4: one that waits and ends by another one is idle from then on, and waits no more.
func TestEndsWhileItWaits(t *testing.T) {
	plays(t, []script{
		{what: "kill", rows: []row{
			{1, asks(pipe), "done [0 1]"},
			{1, asks(fork), "done 2"},
			{2, asks(read, 0, 9), "parked"},
			{1, asks(kill, 2, 0), "done"},
			{2, anything, "parked"},
			{1, asks(kill, 2, 9), "done"},
			{2, anything, "idle"},
			{1, says(write, "a", 1), "done 1"},
			{2, anything, "idle"},
			{1, asks(read, 0, 9), "done 1 a"},
			{1, asks(wait, -1, 0), "done 2 [137]"},
			{2, anything, "idle"},
			{1, asks(fork), "done 3"},
			{3, anything, "done 3"},
		}},
		{what: "kill, for which another one waits", rows: []row{
			{1, asks(fork), "done 2"},
			{1, asks(fork), "done 3"},
			{2, asks(pipe), "done [0 1]"},
			{2, asks(read, 0, 1), "parked"},
			{1, asks(wait, 2, 0), "parked"},
			{3, asks(kill, 2, 1), "done"},
			{2, anything, "idle"},
			{1, anything, "woken 2 [129]"},
		}},
		{what: "pdkill", rows: []row{
			{1, asks(pipe), "done [0 1]"},
			{1, asks(enter), "done"},
			{1, asks(pdfork), "done 2"},
			{2, asks(read, 0, 9), "parked"},
			{1, asks(pdkill, 2, 9), "done"},
			{2, anything, "idle"},
			{1, asks(pdwait, 2, 0), "done 1 [137]"},
			{2, anything, "idle"},
		}},
		{what: "its last descriptor is closed", rows: []row{
			{1, asks(pipe), "done [0 1]"},
			{1, asks(pdfork), "done 2"},
			{2, says(write, "abcd", 1), "done 4"},
			{2, says(write, "e", 1), "parked"},
			{1, asks(shut, 2), "done"},
			{2, anything, "idle"},
			{1, asks(read, 0, 9), "done 4 abcd"},
		}},
		{what: "its other end ends with it", rows: []row{
			{1, asks(pair), "done [0 1]"},
			{1, asks(fork), "done 2"},
			{1, asks(shut, 1), "done"},
			{1, asks(recv, 0, 9), "parked"},
			{2, asks(shut, 0), "done"},
			{2, asks(recv, 1, 9), "parked"},
			{1, anything, "parked"},
		}},
	})
}

// P24.2: a process in capability mode waits likewise, but not with what it may not ask for.
func TestCapabilityModeWaits(t *testing.T) {
	plays(t, []script{
		{what: "read", rows: []row{
			{1, asks(pipe), "done [0 1]"},
			{1, asks(fork), "done 2"},
			{1, asks(fork), "done 3"},
			{2, asks(enter), "done"},
			{2, asks(wait, -1, 0), "done error 94"},
			{2, asks(read, 0, 9), "parked"},
			{2, asks(wait, -1, 0), "parked"},
			{3, asks(read, 0, 9), "parked"},
			{3, asks(enter), "parked"},
			{1, says(write, "ab", 1), "done 2"},
			{2, asks(getmode), "woken 2 ab"},
			{2, asks(getmode), "done 1"},
			{1, says(write, "c", 1), "done 1"},
			{3, asks(enter), "woken 1 c"},
			{3, asks(getmode), "done"},
		}},
		{what: "what shares nothing with it limits its own descriptors", rows: []row{
			{1, asks(pipe), "done [0 1]"},
			{1, asks(fork), "done 2"},
			{2, asks(read, 0, 9), "parked"},
			{1, lists(limit, []int{1 << 57, 1 << 58}, 0), "done"},
			{1, asks(read, 0, 9), "done error 93"},
			{2, anything, "parked"},
			{1, says(write, "ab", 1), "done 2"},
			{2, anything, "woken 2 ab"},
		}},
		{what: "one whose own descriptor has not the right", rows: []row{
			{1, asks(pipe), "done [0 1]"},
			{1, lists(limit, []int{1<<57 + int(api.CapWrite), 1 << 58}, 0), "done"},
			{1, asks(read, 0, 9), "done error 93"},
			{1, asks(read, 5, 9), "done error 9"},
			{1, anything, "done 1"},
		}},
	})
}

// P24.4: a step that tells an error changes nothing, whatever is there and waits; here a world in which others wait, with each of many errors.
func TestErrorsChangeNothing(t *testing.T) {
	w := begins(t, many, append(families(), row{first, says(mkdir, "d"), "done"}, row{second, asks(read, 0, 9), "parked"})...)
	was := fmt.Sprint(w.Dump())
	for _, x := range []row{
		{first, asks(kill, 1, 9), "done error 1"},
		{first, says(open, "none"), "done error 2"},
		{first, asks(kill, 5, 9), "done error 3"},
		{first, asks(shut, 9), "done error 9"},
		{third, asks(shut, -1), "done error 9"},
		{first, asks(wait, 5, 0), "done error 10"},
		{first, says(mkdir, "d"), "done error 17"},
		{first, says(bind, "s", 0), "done error 38"},
		{first, says(open, "d", api.OWrite), "done error 21"},
		{first, asks(listen, 2, 1), "done error 22"},
		{first, asks(ioctl, 0, 9), "done error 25"},
		{first, asks(pdwait, 0, 0), "done error 22"},
		{first, lists(send, []int{8}, 2), "done error 9"},
		{third, says(open, "d"), "done error 94"},
		{first, asks(99), "done error 78"},
		{first, asks(read, 0, 999), "done error 22"},
	} {
		play(t, w, []row{x})
		if fmt.Sprint(w.Dump()) != was {
			t.Fatalf("%d: %v: a change", x.pid, x.r)
		}
	}
}

// P24.2: what a process waits with is its own: it stays as it was asked for, whatever becomes of what was handed in; and what is told is new.
func TestMemory(t *testing.T) {
	w := begins(t, few, row{first, asks(pipe), "done [0 1]"}, row{first, asks(pair), "done 2 [2 3]"}, row{first, asks(fork), "done 2"})
	room := []int{0, 1, 2, 1, 9, 9}
	l := room[:4]
	play(t, w, []row{{second, lists(poll, l), "parked"}})
	copy(l, []int{8, 8, 8, 8})
	play(t, w, []row{{second, lists(poll, l), "parked"}, {first, says(send, "a", 3), "done 1"}})
	parks := w.Dump().Parks
	copy(parks[0].Req.L, []int{7, 7, 7, 7})
	x := Step(w, api.Step{Pid: second, Req: lists(poll, l)})
	if tells(x) != "woken 1 [0 1]" {
		t.Errorf("%s", tells(x))
	}
	if !slices.Equal(room, []int{8, 8, 8, 8, 9, 9}) {
		t.Errorf("what was handed in: %v", room)
	}
	copy(x.Res.L, []int{5, 5})
	play(t, w, []row{{second, lists(poll, []int{0, 1, 2, 1}), "done 1 [0 1]"}})
}

// P24.2: two worlds know nothing of one another.
func TestWorldsApart(t *testing.T) {
	l := []row{{first, asks(pipe), "done [0 1]"}, {first, asks(fork), "done 2"}, {second, asks(read, 0, 9), "parked"}}
	a, b := begins(t, few, l...), begins(t, few, l...)
	play(t, a, []row{{first, says(write, "a", 1), "done 1"}})
	play(t, b, []row{{second, anything, "parked"}})
	play(t, a, []row{{second, anything, "woken 1 a"}})
	play(t, b, []row{{second, anything, "parked"}})
}
