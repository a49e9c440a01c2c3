package polls

import (
	"slices"

	"purlieu/api"
	"purlieu/world"
)

// plain is the chapter's words on a dump. It knows none of the tables that a world has.
type plain struct {
	api.Dump
	room api.Limits
}

// seen answers what there is in a world.
func seen(w *world.World) plain { return plain{w.Dump(), w.Limits()} }

// found answers the first of l of which yes is true.
func found[T any](l []T, yes func(T) bool) (T, bool) {
	if i := slices.IndexFunc(l, yes); i >= 0 {
		return l[i], true
	}
	var none T
	return none, false
}

// lives tells whether a process does.
func (p plain) lives(pid int) bool {
	_, ok := found(p.Procs, func(x api.Proc) bool { return x.Pid == pid && x.Lives })
	return ok
}

// ready is P23.1.
func (p plain) ready(pid, fd int) (bool, bool, api.Errno) {
	h, there := found(p.Held, func(h api.Held) bool { return h.Pid == pid && h.Fd == fd })
	switch {
	case !p.lives(pid):
		return false, false, api.ESRCH
	case !there:
		return false, false, api.EBADF
	case h.Slot.Rights>>27&1 == 0:
		return false, false, api.ENOTCAPABLE
	}
	f, _ := found(p.Files, func(f api.File) bool { return f.ID == h.Slot.File })
	switch f.Kind {
	case api.KFile, api.KDir:
		return f.Flags%4 != 1, f.Flags%4 != 0, api.OK
	case api.KPipe:
		x, _ := found(p.Pipes, func(x api.Pipe) bool { return x.ID == f.Obj })
		if f.Flags%2 == 1 {
			return false, len(x.B) < p.room.Pipe || !x.Reads, api.OK
		}
		return x.B != "" || !x.Writes, false, api.OK
	case api.KSock:
		reads, writes := p.sock(f.Obj)
		return reads, writes, api.OK
	}
	return !p.lives(f.Obj), false, api.OK
}

// sock is what chapter 11 says of a socket that there is.
func (p plain) sock(id int) (bool, bool) {
	is := func(id int) func(api.Sock) bool { return func(x api.Sock) bool { return x.ID == id } }
	x, _ := found(p.Socks, is(id))
	y, there := found(p.Socks, is(x.Peer))
	switch x.State {
	case 0:
		return false, false
	case 1:
		return len(x.Waits) > 0, false
	}
	waits := 0
	for _, part := range y.Parts {
		waits += len(part.B)
	}
	return len(x.Parts) > 0 || x.ShutR || !there || y.ShutW, x.ShutW || !there || y.ShutR || waits < p.room.Sock
}

// shaped is what chapter 16 asks of a request of poll.
func shaped(r api.Req) bool {
	if r.A[0] != 0 && r.A[0] != 1 || r.A != [5]int{r.A[0]} || r.S != "" || r.T != "" || len(r.L)%2 != 0 || len(r.L) > 16 {
		return false
	}
	for i := 1; i < len(r.L); i += 2 {
		if r.L[i] < 1 || r.L[i] > 3 {
			return false
		}
	}
	return true
}

// call is P23.2.
func (p plain) call(pid int, r api.Req) api.Res {
	switch {
	case !p.lives(pid):
		return api.Res{Err: api.ESRCH}
	case r.No != polling:
		return api.Res{Err: api.ENOSYS}
	case !shaped(r):
		return api.Res{Err: api.EINVAL}
	}
	for i := 0; i < len(r.L); i += 2 {
		if _, _, e := p.ready(pid, r.L[i]); e != api.OK {
			return api.Res{Err: e}
		}
	}
	var x api.Res
	for i := 0; i < len(r.L); i += 2 {
		reads, writes, _ := p.ready(pid, r.L[i])
		n := 0
		if reads && r.L[i+1] != 2 {
			n++
		}
		if writes && r.L[i+1] != 1 {
			n += 2
		}
		if x.L = append(x.L, n); n > 0 {
			x.Val++
		}
	}
	if x.Val == 0 && len(r.L) > 0 && r.A[0] == 0 {
		return api.Res{Err: api.EWAIT}
	}
	return x
}
