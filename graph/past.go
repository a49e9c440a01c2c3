package graph

import (
	"slices"

	"purlieu/api"
	"purlieu/calls"
)

// place is where a descriptor is: its process, and its number there.
type place struct{ pid, fd int }

// source is from where a descriptor is: how, and of which one, nil if that is not there.
type source struct {
	kind int
	slot *api.Slot
}

// past is a step that is looked back on: who asked for what, and what came of it; the descriptors and processes that there were ahead of it, and from where the call lets the caller's new descriptors be.
type past struct {
	pid   int
	asked api.Req
	call  string
	came  api.Res
	held  func(at place) *api.Held
	proc  func(pid int) *api.Proc
	made  func(fd int) source
}

// finder answers a closure that finds one of l by its key, nil if there is none. Of several with one key the first counts.
func finder[K comparable, T any](l []T, key func(x *T) K) func(k K) *T {
	at := map[K]*T{}
	for i := range l {
		if k := key(&l[i]); at[k] == nil {
			at[k] = &l[i]
		}
	}
	return func(k K) *T { return at[k] }
}

// lookBack answers what is known of a step.
func lookBack(was api.Dump, s api.Step, o api.Out) *past {
	asked := Asked(was, s)
	call, _ := calls.Get(asked.No)
	p := &past{
		pid: s.Pid, asked: asked, call: call.Name, came: o.Res,
		held: finder(was.Held, func(x *api.Held) place { return place{x.Pid, x.Fd} }),
		proc: finder(was.Procs, func(x *api.Proc) int { return x.Pid }),
	}
	p.made = p.maker(was)
	return p
}

// of answers the caller's descriptor of a number, as it was, nil if there was none.
func (p *past) of(fd int) *api.Slot {
	if h := p.held(place{p.pid, fd}); h != nil {
		return &h.Slot
	}
	return nil
}

// grant answers from where a descriptor is, in memory of its own.
func (p *past) grant(h api.Held) api.Grant {
	from := p.source(h)
	if from.slot == nil {
		from = source{api.GrantNone, &api.Slot{}}
	}
	h.Slot = own(h.Slot)
	return api.Grant{Held: h, Kind: from.kind, From: own(*from.slot)}
}

// own answers a descriptor whose whitelist is its own.
func own(s api.Slot) api.Slot {
	s.Ioctls.L = slices.Clone(s.Ioctls.L)
	return s
}

// source answers from where a descriptor is. What dup2 laid is asked ahead of what was there: that may have been of the same open file, with less rights.
func (p *past) source(h api.Held) source {
	mine := h.Pid == p.pid && p.came.Err == api.OK
	was := p.held(place{h.Pid, h.Fd})
	switch {
	case mine && p.laid(h.Fd):
		return source{api.GrantCopy, p.of(p.asked.A[0])}
	case was != nil && was.Slot.File == h.Slot.File:
		return source{api.GrantOwn, &was.Slot}
	case p.proc(h.Pid) == nil:
		return source{api.GrantChild, p.of(h.Fd)}
	case mine:
		return p.made(h.Fd)
	}
	return source{}
}

// laid tells whether dup2 is asked to lay another descriptor at this number.
func (p *past) laid(fd int) bool {
	return p.call == "dup2" && fd == p.asked.A[1] && fd != p.asked.A[0]
}

// maker answers from where the call lets the caller's new descriptors be, by their numbers.
func (p *past) maker(was api.Dump) func(fd int) source {
	from := func(kind int, slot *api.Slot) func(fd int) source {
		return func(int) source { return source{kind, slot} }
	}
	switch p.call {
	case "dup":
		return from(api.GrantCopy, p.of(p.asked.A[0]))
	case "fcntl":
		if p.asked.A[1] == 0 {
			return from(api.GrantCopy, p.of(p.asked.A[0]))
		}
	case "recv":
		given := p.given(was)
		return func(fd int) source { return source{api.GrantPassed, given[fd]} }
	case "openat":
		if p.confined() {
			return from(api.GrantDir, p.of(p.asked.A[0]))
		}
		return from(api.GrantFresh, &api.Slot{})
	case "open", "pipe", "socket", "socketpair", "accept", "pdfork":
		return from(api.GrantFresh, &api.Slot{})
	}
	return from(api.GrantNone, nil)
}

// confined tells whether what openat opens has just what the directory's descriptor has; one that is not there has not all rights.
func (p *past) confined() bool {
	if p.asked.A[0] == api.AtCwd {
		return false
	}
	if caller := p.proc(p.pid); caller != nil && caller.Cap {
		return true
	}
	dir := p.of(p.asked.A[0])
	return dir == nil || dir.Rights != api.CapAll
}

// given answers the descriptors that are like what was passed, by the numbers that recv gave them.
func (p *past) given(was api.Dump) map[int]*api.Slot {
	l, m := p.passed(was), map[int]*api.Slot{}
	for i, fd := range p.came.L[:min(len(l), len(p.came.L))] {
		if m[fd] == nil {
			m[fd] = &api.Slot{File: l[i].File, Rights: l[i].Rights, Ioctls: l[i].Ioctls, Fcntls: l[i].Fcntls}
		}
	}
	return m
}

// passed answers what is passed with the first part of the socket that recv is asked of.
func (p *past) passed(was api.Dump) []api.Passed {
	slot := p.of(p.asked.A[0])
	if slot == nil {
		return nil
	}
	file := finder(was.Files, func(x *api.File) int { return x.ID })(slot.File)
	if file == nil || file.Kind != api.KSock {
		return nil
	}
	sock := finder(was.Socks, func(x *api.Sock) int { return x.ID })(file.Obj)
	if sock == nil || len(sock.Parts) == 0 {
		return nil
	}
	return sock.Parts[0].L
}
