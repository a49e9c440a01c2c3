package census

import (
	"slices"

	"purlieu/api"
)

// howMany answers how many of l there are of which this holds.
func howMany[T any](l []T, holds func(x T) bool) (n int) {
	for _, x := range l {
		if holds(x) {
			n++
		}
	}
	return n
}

// passed answers all that is passed and waits in sockets.
func passed(l ...api.Sock) (all []api.Passed) {
	for _, x := range l {
		for _, part := range x.Parts {
			all = append(all, part.L...)
		}
	}
	return all
}

// entriesTo answers how many entries of l lead to an inode.
func entriesTo(ino int, l ...api.Inode) (n int) {
	for _, x := range l {
		n += howMany(x.Inos, func(to int) bool { return to == ino })
	}
	return n
}

// plain tells the faults of a dump as the chapter's words have them, one kind behind the other, going through all lists for each thing anew.
func plain(d api.Dump, l api.Limits) (all []api.Fault) {
	tell := func(kind, id int, wrong bool) {
		if f := (api.Fault{Kind: kind, ID: id}); wrong && !slices.Contains(all, f) {
			all = append(all, f)
		}
	}
	for _, x := range d.Files {
		n := howMany(d.Held, func(y api.Held) bool { return y.Slot.File == x.ID }) + howMany(passed(d.Socks...), func(y api.Passed) bool { return y.File == x.ID })
		tell(1, x.ID, n < 1 || n != x.Refs)
	}
	for _, x := range d.Inodes {
		n := howMany(d.Files, func(y api.File) bool { return y.Obj == x.Ino && (y.Kind == 1 || y.Kind == 2) })
		n += howMany(d.Procs, func(y api.Proc) bool { return y.Lives && y.Cwd == x.Ino })
		if x.Ino == 1 {
			n++
		}
		tell(2, x.Ino, n != x.Holds)
	}
	for _, x := range d.Inodes {
		tell(3, x.Ino, x.Links != entriesTo(x.Ino, d.Inodes...) || x.Links <= 0 && x.Holds <= 0)
	}
	for _, x := range d.Socks {
		open := slices.ContainsFunc(d.Files, func(y api.File) bool { return y.Kind == 6 && y.Obj == x.ID })
		tell(4, x.ID, !open && !slices.ContainsFunc(d.Socks, func(y api.Sock) bool { return slices.Contains(y.Waits, x.ID) }))
	}
	for _, x := range d.Pipes {
		reads := slices.ContainsFunc(d.Files, func(y api.File) bool { return y.Kind == 5 && y.Obj == x.ID && y.Flags&1 == 0 })
		writes := slices.ContainsFunc(d.Files, func(y api.File) bool { return y.Kind == 5 && y.Obj == x.ID && y.Flags&1 == 1 })
		tell(5, x.ID, reads != x.Reads || writes != x.Writes || !reads && !writes)
	}
	plainNames(d, tell)
	for _, x := range d.Inodes {
		tell(7, x.Ino, x.Kind == 2 && x.Ino != 1 && x.Links > 0 && !lies(d, x))
	}
	for i, many := range plainMany(d, l) {
		tell(8, i+1, many)
	}
	for _, x := range d.Procs {
		tell(9, x.Pid, x.Pid != 1 && !slices.ContainsFunc(d.Procs, func(y api.Proc) bool { return y.Pid == x.Parent && y.Lives }))
	}
	for _, x := range d.Socks {
		tell(10, x.ID, x.Peer != 0 && !slices.ContainsFunc(d.Socks, func(y api.Sock) bool { return y.ID == x.Peer && y.Peer == x.ID }))
	}
	return all
}

// plainNames tells the names of nothing.
func plainNames(d api.Dump, tell func(kind, id int, wrong bool)) {
	file := func(id int) bool { return slices.ContainsFunc(d.Files, func(y api.File) bool { return y.ID == id }) }
	inode := func(ino int) bool {
		return slices.ContainsFunc(d.Inodes, func(y api.Inode) bool { return y.Ino == ino })
	}
	for _, x := range d.Held {
		tell(6, x.Pid, !file(x.Slot.File))
	}
	for _, x := range d.Files {
		there := false
		switch x.Kind {
		case 1, 2, 3, 4:
			there = inode(x.Obj)
		case 5:
			there = slices.ContainsFunc(d.Pipes, func(y api.Pipe) bool { return y.ID == x.Obj })
		case 6:
			there = slices.ContainsFunc(d.Socks, func(y api.Sock) bool { return y.ID == x.Obj })
		case 7:
			there = true
		}
		tell(6, x.ID, !there)
	}
	for _, x := range d.Socks {
		tell(6, x.ID, slices.ContainsFunc(passed(x), func(y api.Passed) bool { return !file(y.File) }))
	}
	for _, x := range d.Inodes {
		tell(6, x.Ino, slices.ContainsFunc(x.Inos, func(ino int) bool { return !inode(ino) }))
	}
}

// lies tells whether a directory lies in the tree: one has an entry of it, and from that one the root is come to in no more steps than there are inodes.
func lies(d api.Dump, x api.Inode) bool {
	directory := func(ino int) int {
		return slices.IndexFunc(d.Inodes, func(y api.Inode) bool { return y.Ino == ino && y.Kind == 2 })
	}
	entry := slices.ContainsFunc(d.Inodes, func(y api.Inode) bool { return y.Ino == x.Parent && entriesTo(x.Ino, y) > 0 })
	at := x.Parent
	for range len(d.Inodes) + 1 {
		i := directory(at)
		if i < 0 || at == 1 {
			return entry && i >= 0
		}
		at = d.Inodes[i].Parent
	}
	return false
}

// plainMany tells of what there is too much.
func plainMany(d api.Dump, l api.Limits) (many [7]bool) {
	sum := 0
	for _, x := range d.Inodes {
		sum += x.Blocks
	}
	many = [7]bool{len(d.Procs) > l.Procs, len(d.Files) > l.Files, len(d.Inodes) > l.Inodes, sum > l.Blocks}
	crowd := func(pid int) bool { return howMany(d.Held, func(y api.Held) bool { return y.Pid == pid }) > l.Fds }
	many[4] = slices.ContainsFunc(d.Procs, func(x api.Proc) bool { return crowd(x.Pid) }) || slices.ContainsFunc(d.Held, func(x api.Held) bool { return x.Fd < 0 || x.Fd >= l.Fds || crowd(x.Pid) })
	many[5] = slices.ContainsFunc(d.Pipes, func(x api.Pipe) bool { return len(x.B) > l.Pipe })
	many[6] = slices.ContainsFunc(d.Socks, func(x api.Sock) bool {
		var b []byte
		for _, part := range x.Parts {
			b = append(b, part.B...)
		}
		return len(b) > l.Sock
	})
	return many
}

// counts answers how much there is, one by one.
func counts(d api.Dump) (n [7]int) {
	for range d.Procs {
		n[0]++
	}
	for range d.Held {
		n[1]++
	}
	for range d.Files {
		n[2]++
	}
	for range d.Pipes {
		n[3]++
	}
	for range d.Socks {
		n[4]++
	}
	for _, x := range d.Inodes {
		n[5]++
		n[6] += x.Blocks
	}
	return n
}
