package apart

import (
	"slices"

	"purlieu/api"
	"purlieu/confine"
)

// group is a dump, and what in it is a group's. Of several of one number the first counts.
type group struct {
	api.Dump
	in    map[int]int     // the numbers of its processes
	come  map[api.Obj]int // to what one of them can come
	procs map[int]int     // processes, by their places in their list
}

// grouped answers a dump's group of these processes.
func grouped(d api.Dump, pids []int) *group {
	g := &group{d, map[int]int{}, map[api.Obj]int{}, firsts(d.Procs, func(x api.Proc) int { return x.Pid })}
	nowhere := placeless(d)
	for _, pid := range pids {
		g.in[pid]++
		if g.comes(api.KProc, pid) {
			continue // and so to all that it can come to
		}
		for _, o := range confine.Authority(nowhere, pid) {
			g.come[o]++
		}
	}
	return g
}

// placeless answers a dump in which no process is in a directory.
func placeless(d api.Dump) api.Dump {
	d.Procs = slices.Clone(d.Procs)
	for i := range d.Procs {
		d.Procs[i].Cwd = 0
	}
	return d
}

// firsts answers where in a list the first of each number stands.
func firsts[T any](l []T, number func(x T) int) map[int]int {
	m := map[int]int{}
	for i, x := range l {
		if _, known := m[number(x)]; !known {
			m[number(x)] = i
		}
	}
	return m
}

// has tells whether a process is one of the group.
func (g *group) has(pid int) bool { return g.in[pid] > 0 }

// comes tells whether one of the group can come to a thing.
func (g *group) comes(kind, id int) bool { return g.come[api.Obj{Kind: kind, ID: id}] > 0 }

// sealed tells whether the group has what it can come to for itself.
func (g *group) sealed() bool {
	return len(g.in) > 0 && g.confined() && !g.leads() && !g.shares()
}

// confined tells whether all of the group live, and are in capability mode.
func (g *group) confined() bool {
	for pid := range g.in {
		i, there := g.procs[pid]
		if !there || !g.Procs[i].Lives || !g.Procs[i].Cap {
			return false
		}
	}
	return true
}

// leads tells whether one of the group can come to another process.
func (g *group) leads() bool {
	for o := range g.come {
		if o.Kind == api.KProc && !g.has(o.ID) {
			return true
		}
	}
	return false
}

// shares tells whether what the group can come to is open for others: by their descriptors, or by what waits to become one of theirs.
func (g *group) shares() bool {
	files := firsts(g.Files, func(x api.File) int { return x.ID })
	socks := firsts(g.Socks, func(x api.Sock) int { return x.ID })
	open := func(id int) bool {
		i, there := files[id]
		return there && g.opened(g.Files[i])
	}
	for _, x := range g.Held {
		if !g.has(x.Pid) && open(x.Slot.File) {
			return true
		}
	}
	for i, x := range g.Socks {
		if socks[x.ID] != i || g.comes(api.KSock, x.ID) {
			continue
		}
		if slices.ContainsFunc(passed(x), open) {
			return true
		}
	}
	return false
}

// opened tells whether one of the group can come to what an open file is of.
func (g *group) opened(f api.File) bool {
	if f.Kind == api.KDir {
		return g.comes(api.KFile, f.Obj)
	}
	return g.comes(f.Kind, f.Obj)
}
