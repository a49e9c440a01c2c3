package confine

import (
	"fmt"
	"slices"

	"purlieu/api"
)

// texts answers what of each thing makes it another one, by the plain words of P28.1 and P28.2; nil and empty lists are written alike.
func texts(d api.Dump) map[api.Obj]string {
	m := map[api.Obj]string{}
	put := func(kind, id int, text string) {
		if _, ok := m[api.Obj{Kind: kind, ID: id}]; !ok {
			m[api.Obj{Kind: kind, ID: id}] = text
		}
	}
	for _, x := range d.Inodes {
		put(1, x.Ino, fmt.Sprintf("%d %q %q %v", x.Kind, x.Text, x.Names, x.Inos))
	}
	for _, x := range d.Pipes {
		put(5, x.ID, fmt.Sprint(x))
	}
	for _, x := range d.Socks {
		put(6, x.ID, fmt.Sprint(x))
	}
	for _, x := range d.Procs {
		x.Parent = 0
		put(7, x.Pid, fmt.Sprint(x))
	}
	return m
}

// sorted answers things in order, each once.
func sorted(m map[api.Obj]bool) (l []api.Obj) {
	for o := range m {
		l = append(l, o)
	}
	slices.SortFunc(l, func(a, b api.Obj) int {
		switch {
		case a == b:
			return 0
		case a.Kind < b.Kind || a.Kind == b.Kind && a.ID < b.ID:
			return -1
		}
		return 1
	})
	return l
}

// changed answers what Effects is to tell.
func changed(was, now api.Dump) []api.Obj {
	m, b := map[api.Obj]bool{}, texts(now)
	for o, text := range texts(was) {
		if there, ok := b[o]; !ok || there != text {
			m[o] = true
		}
	}
	return sorted(m)
}

// plainly is what was come to: things; and of inodes those that are open, or come to from one that is.
type plainly struct {
	d    api.Dump
	come map[api.Obj]bool
	open map[int]bool
}

// names notes what the first open file of a number is of.
func (p *plainly) names(id int) {
	for _, f := range p.d.Files {
		if f.ID != id {
			continue
		}
		switch f.Kind {
		case 1, 2:
			p.come[api.Obj{Kind: 1, ID: f.Obj}], p.open[f.Obj] = true, true
		case 5, 6, 7:
			p.come[api.Obj{Kind: f.Kind, ID: f.Obj}] = true
		}
		return
	}
}

// first tells whether there is none of that key in l ahead of i.
func first[T any](l []T, i int, key func(x T) int) bool {
	return !slices.ContainsFunc(l[:i], func(x T) bool { return key(x) == key(l[i]) })
}

// round goes once through all of the dump, by the plain words of P28.3.
func (p *plainly) round() {
	for i, x := range p.d.Procs {
		if first(p.d.Procs, i, func(x api.Proc) int { return x.Pid }) && p.come[api.Obj{Kind: 7, ID: x.Pid}] && x.Cwd != 0 {
			p.come[api.Obj{Kind: 1, ID: x.Cwd}] = true
		}
	}
	for _, x := range p.d.Held {
		if p.come[api.Obj{Kind: 7, ID: x.Pid}] {
			p.names(x.Slot.File)
		}
	}
	for i, x := range p.d.Inodes {
		if first(p.d.Inodes, i, func(x api.Inode) int { return x.Ino }) && p.open[x.Ino] && x.Kind == 2 {
			for _, ino := range x.Inos {
				p.come[api.Obj{Kind: 1, ID: ino}], p.open[ino] = true, true
			}
		}
	}
	for i, x := range p.d.Socks {
		if !first(p.d.Socks, i, func(x api.Sock) int { return x.ID }) {
			continue
		}
		if x.Bound != 0 && p.open[x.Bound] {
			p.come[api.Obj{Kind: 6, ID: x.ID}] = true
		}
		if !p.come[api.Obj{Kind: 6, ID: x.ID}] {
			continue
		}
		if x.Peer != 0 {
			p.come[api.Obj{Kind: 6, ID: x.Peer}] = true
		}
		for _, id := range x.Waits {
			p.come[api.Obj{Kind: 6, ID: id}] = true
		}
		for _, part := range x.Parts {
			for _, y := range part.L {
				p.names(y.File)
			}
		}
	}
}

// reached answers what Authority is to tell: all is gone through until nothing more is come to.
func reached(d api.Dump, pid int) []api.Obj {
	p := &plainly{d, map[api.Obj]bool{{Kind: 7, ID: pid}: true}, map[int]bool{}}
	for n := 0; n < len(p.come)+len(p.open); {
		n = len(p.come) + len(p.open)
		p.round()
	}
	return sorted(p.come)
}

// beyond answers which effects are not among what was come to.
func beyond(effects, come []api.Obj) (l []api.Obj) {
	for _, o := range effects {
		if !slices.Contains(come, o) {
			l = append(l, o)
		}
	}
	return l
}
