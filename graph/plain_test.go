package graph

import (
	"purlieu/api"
)

// wants answers what s.Pid asks for, by the plain words of P27.1.
func wants(was api.Dump, s api.Step) api.Req {
	for _, x := range was.Parks {
		if x.Pid == s.Pid {
			return x.Req
		}
	}
	return s.Req
}

// there answers the first descriptor of a process and number.
func there(d api.Dump, pid, fd int) (api.Slot, bool) {
	for _, x := range d.Held {
		if x.Pid == pid && x.Fd == fd {
			return x.Slot, true
		}
	}
	return api.Slot{}, false
}

// process answers the first process of a number.
func process(d api.Dump, pid int) (api.Proc, bool) {
	for _, x := range d.Procs {
		if x.Pid == pid {
			return x, true
		}
	}
	return api.Proc{}, false
}

// waiting answers what is passed with the first part of the socket that a descriptor of pid is open of.
func waiting(d api.Dump, pid, fd int) []api.Passed {
	slot, ok := there(d, pid, fd)
	if !ok {
		return nil
	}
	for _, f := range d.Files {
		if f.ID != slot.File {
			continue
		}
		if f.Kind != api.KSock {
			return nil
		}
		for _, x := range d.Socks {
			if x.ID == f.Obj {
				if len(x.Parts) == 0 {
					return nil
				}
				return x.Parts[0].L
			}
		}
		return nil
	}
	return nil
}

// received answers from which one that was passed the descriptor fd is.
func received(was api.Dump, s api.Step, r api.Req, o api.Out, fd int) (api.Slot, bool) {
	for i, x := range o.Res.L {
		if x != fd {
			continue
		}
		if l := waiting(was, s.Pid, r.A[0]); i < len(l) {
			return api.Slot{File: l[i].File, Rights: l[i].Rights, Ioctls: l[i].Ioctls, Fcntls: l[i].Fcntls}, true
		}
		return api.Slot{}, false
	}
	return api.Slot{}, false
}

// origin answers from where one descriptor is, by the plain words of P27.2: the kind, which one, and whether that is there.
func origin(was api.Dump, h api.Held, s api.Step, o api.Out) (int, api.Slot, bool) {
	r := wants(was, s)
	callers, fine := h.Pid == s.Pid, o.Res.Err == 0
	base, based := there(was, s.Pid, r.A[0])
	if callers && fine && r.No == 18 && h.Fd == r.A[1] && r.A[1] != r.A[0] {
		return api.GrantCopy, base, based
	}
	if x, ok := there(was, h.Pid, h.Fd); ok && x.File == h.Slot.File {
		return api.GrantOwn, x, true
	}
	if _, ok := process(was, h.Pid); !ok {
		x, ok := there(was, s.Pid, h.Fd)
		return api.GrantChild, x, ok
	}
	if !callers || !fine {
		return api.GrantNone, api.Slot{}, false
	}
	caller, _ := process(was, s.Pid)
	switch r.No {
	case 17:
		return api.GrantCopy, base, based
	case 20:
		return api.GrantCopy, base, based && r.A[1] == 0
	case 51:
		x, ok := received(was, s, r, o, h.Fd)
		return api.GrantPassed, x, ok
	case 33:
		if r.A[0] != -100 && (caller.Cap || base.Rights != api.CapAll) {
			return api.GrantDir, base, based
		}
		return api.GrantFresh, api.Slot{}, true
	case 5, 19, 41, 42, 48, 53:
		return api.GrantFresh, api.Slot{}, true
	}
	return api.GrantNone, api.Slot{}, false
}

// plain answers from where all descriptors are, by the plain words.
func plain(was, now api.Dump, s api.Step, o api.Out) (l []api.Grant) {
	for _, h := range now.Held {
		g := api.Grant{Held: h}
		if kind, from, ok := origin(was, h, s, o); ok {
			g.Kind, g.From = kind, from
		}
		l = append(l, g)
	}
	return l
}

// less tells whether a is within b, bit by bit and command by command; lists of numbers beyond no bound are not asked for.
func less(a, b api.Slot) bool {
	for i := range 64 {
		if i < 32 && a.Rights>>i&1 > b.Rights>>i&1 || a.Fcntls>>i&1 != 0 && b.Fcntls>>i&1 == 0 {
			return false
		}
	}
	if !list(a.Ioctls) || !list(b.Ioctls) {
		return false
	}
	if a.Ioctls.All || b.Ioctls.All {
		return b.Ioctls.All
	}
	for _, x := range a.Ioctls.L {
		in := false
		for _, y := range b.Ioctls.L {
			in = in || x == y
		}
		if !in {
			return false
		}
	}
	return true
}

// list tells whether there can be such a whitelist.
func list(a api.List) bool {
	if a.All {
		return len(a.L) == 0
	}
	for i, x := range a.L {
		if x < 0 || i > 0 && x <= a.L[i-1] {
			return false
		}
	}
	return len(a.L) <= 32
}
