package capcalls

import (
	"slices"

	"purlieu/api"
	"purlieu/world"
)

// plain is the chapter's words on a dump: each call answers what comes of it, and changes the dump. It knows none of the tables that a world has.
type plain struct{ d api.Dump }

// newPlain answers what there is in a world.
func newPlain(w *world.World) *plain {
	p := &plain{}
	p.sees(w)
	return p
}

// sees takes over what there is after something that is no call of this chapter.
func (p *plain) sees(w *world.World) {
	p.d = w.Dump()
	p.d.Procs, p.d.Held = slices.Clone(p.d.Procs), slices.Clone(p.d.Held)
}

// call is P22.1, and then what comes of the call.
func (p *plain) call(pid int, r api.Req) api.Res {
	at := slices.IndexFunc(p.d.Procs, func(x api.Proc) bool { return x.Pid == pid && x.Lives })
	switch {
	case at < 0:
		return api.Res{Err: api.ESRCH}
	case !slices.Contains(chapter, r.No):
		return api.Res{Err: api.ENOSYS}
	case !shaped(r):
		return api.Res{Err: api.EINVAL}
	case r.No == enter:
		p.d.Procs[at].Cap = true
		return api.Res{}
	case r.No == getmode && p.d.Procs[at].Cap:
		return api.Res{Val: 1}
	case r.No == getmode:
		return api.Res{}
	}
	fd := slices.IndexFunc(p.d.Held, func(x api.Held) bool { return x.Pid == pid && x.Fd == r.A[0] })
	if fd < 0 {
		return api.Res{Err: api.EBADF}
	}
	return onSlot(&p.d.Held[fd].Slot, r)
}

// onSlot is what comes of a call on a descriptor.
func onSlot(s *api.Slot, r api.Req) api.Res {
	switch r.No {
	case rightsGet:
		return api.Res{L: raw(s.Rights)}
	case ioctlsGet:
		if s.Ioctls.All {
			return api.Res{Val: -1}
		}
		return api.Res{Val: len(s.Ioctls.L), L: s.Ioctls.L}
	case fcntlsGet:
		return api.Res{Val: s.Fcntls}
	case rightsLimit:
		return api.Res{Err: lessRights(s, r.L)}
	case ioctlsLimit:
		return api.Res{Err: lessIoctls(s, r.L)}
	}
	mask, most := r.A[1], 8+16+32+64
	switch {
	case mask|most != most:
		return api.Res{Err: api.EINVAL}
	case mask|s.Fcntls != s.Fcntls:
		return api.Res{Err: api.ENOTCAPABLE}
	}
	s.Fcntls = mask
	return api.Res{}
}

// lessRights leaves just the rights of which l are the words: two heads, and what is above them, right by right.
func lessRights(s *api.Slot, l []int) api.Errno {
	first, second := l[0]-1<<57, l[1]-1<<58
	if l[0] < 1<<57 || l[1] < 1<<58 || first >= 1<<20 || second >= 1<<12 {
		return api.EINVAL
	}
	want := api.Rights(first + second<<20)
	for i := range 32 {
		if want>>i&1 > s.Rights>>i&1 {
			return api.ENOTCAPABLE
		}
	}
	s.Rights = want
	if want>>28&1 == 0 {
		s.Ioctls = api.List{}
	}
	if want>>9&1 == 0 {
		s.Fcntls = 0
	}
	return api.OK
}

// lessIoctls leaves just the commands l.
func lessIoctls(s *api.Slot, l []int) api.Errno {
	l = slices.Clone(l)
	slices.Sort(l)
	l = slices.Compact(l)
	if len(l) > 32 || len(l) > 0 && l[0] < 0 {
		return api.EINVAL
	}
	for _, cmd := range l {
		if !s.Ioctls.All && !slices.Contains(s.Ioctls.L, cmd) {
			return api.ENOTCAPABLE
		}
	}
	s.Ioctls = api.List{L: l}
	return api.OK
}
