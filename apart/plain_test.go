package apart

import (
	"fmt"
	"slices"

	"purlieu/api"
)

// plainly is what was come to, told by the plain words of P28.3 where nobody is in a directory: so each inode that is come to is open, or below one that is.
type plainly struct {
	d    api.Dump
	come map[api.Obj]bool
}

// of answers what the first open file of a number is of.
func of(d api.Dump, id int) api.Obj {
	for _, f := range d.Files {
		if f.ID != id {
			continue
		}
		switch f.Kind {
		case 1, 2:
			return api.Obj{Kind: 1, ID: f.Obj}
		case 5, 6, 7:
			return api.Obj{Kind: f.Kind, ID: f.Obj}
		}
		break
	}
	return api.Obj{}
}

// first tells whether there is none of that key in l ahead of i.
func first[T any](l []T, i int, key func(x T) int) bool {
	return !slices.ContainsFunc(l[:i], func(x T) bool { return key(x) == key(l[i]) })
}

// to comes to a thing.
func (p *plainly) to(o api.Obj) {
	if o.Kind != 0 {
		p.come[o] = true
	}
}

// round goes once through all of the dump.
func (p *plainly) round() {
	for _, x := range p.d.Held {
		if p.come[api.Obj{Kind: 7, ID: x.Pid}] {
			p.to(of(p.d, x.Slot.File))
		}
	}
	for i, x := range p.d.Inodes {
		if p.come[api.Obj{Kind: 1, ID: x.Ino}] && x.Kind == 2 && first(p.d.Inodes, i, func(x api.Inode) int { return x.Ino }) {
			for _, ino := range x.Inos {
				p.to(api.Obj{Kind: 1, ID: ino})
			}
		}
	}
	for i, x := range p.d.Socks {
		if !first(p.d.Socks, i, func(x api.Sock) int { return x.ID }) {
			continue
		}
		if x.Bound != 0 && p.come[api.Obj{Kind: 1, ID: x.Bound}] {
			p.to(api.Obj{Kind: 6, ID: x.ID})
		}
		if !p.come[api.Obj{Kind: 6, ID: x.ID}] {
			continue
		}
		if x.Peer != 0 {
			p.to(api.Obj{Kind: 6, ID: x.Peer})
		}
		for _, id := range x.Waits {
			p.to(api.Obj{Kind: 6, ID: id})
		}
		for _, id := range waiting(x) {
			p.to(of(p.d, id))
		}
	}
}

// waiting answers the open files that what waits in a socket names.
func waiting(x api.Sock) (l []int) {
	for _, part := range x.Parts {
		for _, y := range part.L {
			l = append(l, y.File)
		}
	}
	return l
}

// reached answers what Reach is to tell: all is gone through until nothing more is come to.
func reached(d api.Dump, pids []int) (l []api.Obj) {
	p := &plainly{d, map[api.Obj]bool{}}
	for _, pid := range pids {
		p.to(api.Obj{Kind: 7, ID: pid})
	}
	for n := -1; n < len(p.come); {
		n = len(p.come)
		p.round()
	}
	for o := range p.come {
		l = append(l, o)
	}
	slices.SortFunc(l, func(a, b api.Obj) int {
		if a.Kind != b.Kind {
			return a.Kind - b.Kind
		}
		if a.ID < b.ID {
			return -1
		}
		return 1
	})
	return l
}

// unsealed answers why a group is not sealed, by the plain words of P29.2; nothing, if it is.
func unsealed(d api.Dump, pids []int, reach []api.Obj) string {
	if len(pids) == 0 {
		return "nobody"
	}
	for _, pid := range pids {
		i := slices.IndexFunc(d.Procs, func(x api.Proc) bool { return x.Pid == pid })
		switch {
		case i < 0:
			return "one is not there"
		case !d.Procs[i].Lives:
			return "one ended"
		case !d.Procs[i].Cap:
			return "one is not in capability mode"
		}
	}
	for _, o := range reach {
		if o.Kind == 7 && !slices.Contains(pids, o.ID) {
			return "another process is come to"
		}
	}
	for _, x := range d.Held {
		if o := of(d, x.Slot.File); !slices.Contains(pids, x.Pid) && slices.Contains(reach, o) {
			return fmt.Sprint("another one's descriptor of ", o.Kind)
		}
	}
	for i, x := range d.Socks {
		if slices.Contains(reach, api.Obj{Kind: 6, ID: x.ID}) || !first(d.Socks, i, func(x api.Sock) int { return x.ID }) {
			continue
		}
		for _, id := range waiting(x) {
			if slices.Contains(reach, of(d, id)) {
				return "it waits elsewhere"
			}
		}
	}
	return ""
}

// cutting answers what Part is to tell, by the plain words of P29.3; the lists within are the dump's.
func cutting(d api.Dump, pids []int, reach []api.Obj) (p api.Dump) {
	var names []int
	for _, x := range d.Procs {
		if slices.Contains(pids, x.Pid) {
			p.Procs = append(p.Procs, x)
		}
	}
	for _, x := range d.Held {
		if slices.Contains(pids, x.Pid) {
			p.Held = append(p.Held, x)
			names = append(names, x.Slot.File)
		}
	}
	for _, x := range d.Parks {
		if slices.Contains(pids, x.Pid) {
			p.Parks = append(p.Parks, x)
		}
	}
	for _, x := range d.Socks {
		if slices.Contains(reach, api.Obj{Kind: 6, ID: x.ID}) {
			p.Socks = append(p.Socks, x)
			names = append(names, waiting(x)...)
		}
	}
	for _, x := range d.Pipes {
		if slices.Contains(reach, api.Obj{Kind: 5, ID: x.ID}) {
			p.Pipes = append(p.Pipes, x)
		}
	}
	for _, x := range d.Inodes {
		if slices.Contains(reach, api.Obj{Kind: 1, ID: x.Ino}) {
			p.Inodes = append(p.Inodes, x)
		}
	}
	for _, x := range d.Files {
		if slices.Contains(names, x.ID) {
			p.Files = append(p.Files, x)
		}
	}
	p.Next = d.Next
	return p
}

// counted answers what Room is to tell.
func counted(d api.Dump) (r [4]int) {
	for range d.Procs {
		r[0]++
	}
	for range d.Files {
		r[1]++
	}
	for _, x := range d.Inodes {
		r[2]++
		r[3] += x.Blocks
	}
	return r
}

// rests writes down the counts of each inode in which one of the group is.
func rests(d api.Dump, pids []int) (text string) {
	for _, pid := range pids {
		i := slices.IndexFunc(d.Procs, func(x api.Proc) bool { return x.Pid == pid })
		if i < 0 || d.Procs[i].Cwd == 0 {
			continue
		}
		j := slices.IndexFunc(d.Inodes, func(x api.Inode) bool { return x.Ino == d.Procs[i].Cwd })
		if j < 0 {
			text += "none "
			continue
		}
		text += fmt.Sprint(d.Inodes[j].Links, d.Inodes[j].Holds, " ")
	}
	return text
}

// seen is what is told of a group, by the plain words.
type seen struct {
	reach []api.Obj
	why   string // it is not sealed
	part  api.Dump
}

// sees answers what is to be told of a group.
func sees(d api.Dump, pids []int) seen {
	reach := reached(d, pids)
	return seen{reach, unsealed(d, pids, reach), cutting(d, pids, reach)}
}

// unlike answers why two dumps are not alike for a group, by the plain words of P29.4; nothing, if they are. Nil and empty lists are written alike.
func unlike(a, b api.Dump, pids []int, x, y seen) string {
	switch {
	case x.why != "" && y.why != "":
		return "sealed in neither"
	case x.why != "" || y.why != "":
		return "sealed in one"
	case fmt.Sprint(x.part) != fmt.Sprint(y.part):
		return "parts"
	case counted(a) != counted(b):
		return "rooms"
	case rests(a, pids) != rests(b, pids):
		return "rests"
	}
	return ""
}
