package apart

import "purlieu/api"

// cut answers what of a list is kept, in its order.
func cut[T any](l []T, kept func(x T) bool) []T {
	var out []T
	for _, x := range l {
		if kept(x) {
			out = append(out, x)
		}
	}
	return out
}

// part answers what of the dump is the group's. The lists within are the dump's still.
func (g *group) part() api.Dump {
	p := api.Dump{Next: g.Next}
	p.Procs = cut(g.Procs, func(x api.Proc) bool { return g.has(x.Pid) })
	p.Held = cut(g.Held, func(x api.Held) bool { return g.has(x.Pid) })
	p.Parks = cut(g.Parks, func(x api.Park) bool { return g.has(x.Pid) })
	p.Pipes = cut(g.Pipes, func(x api.Pipe) bool { return g.comes(api.KPipe, x.ID) })
	p.Socks = cut(g.Socks, func(x api.Sock) bool { return g.comes(api.KSock, x.ID) })
	p.Inodes = cut(g.Inodes, func(x api.Inode) bool { return g.comes(api.KFile, x.Ino) })
	names := named(p)
	p.Files = cut(g.Files, func(x api.File) bool { return names[x.ID] > 0 })
	return p
}

// named answers how many descriptors, and how much of what is passed, of a dump names an open file.
func named(d api.Dump) map[int]int {
	names := map[int]int{}
	for _, x := range d.Held {
		names[x.Slot.File]++
	}
	for _, x := range d.Socks {
		for _, id := range passed(x) {
			names[id]++
		}
	}
	return names
}

// passed answers the open files that what waits in a socket names.
func passed(x api.Sock) (ids []int) {
	for _, part := range x.Parts {
		for _, p := range part.L {
			ids = append(ids, p.File)
		}
	}
	return ids
}

// own makes all lists within a dump's lists its own.
func own(d *api.Dump) {
	for i := range d.Held {
		fresh(&d.Held[i].Slot.Ioctls.L)
	}
	for i := range d.Parks {
		fresh(&d.Parks[i].Req.L)
	}
	for i := range d.Socks {
		ownSock(&d.Socks[i])
	}
	for i := range d.Inodes {
		fresh(&d.Inodes[i].Names)
		fresh(&d.Inodes[i].Inos)
	}
}

// ownSock makes all lists of a socket its own.
func ownSock(x *api.Sock) {
	fresh(&x.Waits)
	fresh(&x.Parts)
	for i := range x.Parts {
		part := &x.Parts[i]
		fresh(&part.B)
		fresh(&part.L)
		for j := range part.L {
			fresh(&part.L[j].Ioctls.L)
		}
	}
}

// fresh lays a list into new memory.
func fresh[T any](l *[]T) { *l = append([]T(nil), *l...) }
