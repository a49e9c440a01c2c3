package census

import "purlieu/api"

// What is known of going up from a directory: the root is come to, or it is not.
const (
	comes = 1 + iota
	strays
)

// misnamed tells whether an open file's Refs are not what names it, or nothing does.
func (b *book) misnamed(x api.File) bool {
	n := b.named[x.ID]
	return x.Refs != n || n == 0
}

// misheld tells whether an inode's Holds are not what holds it.
func (b *book) misheld(x api.Inode) bool {
	n := b.opened[api.Obj{Kind: api.KFile, ID: x.Ino}] + b.opened[api.Obj{Kind: api.KDir, ID: x.Ino}] + b.within[x.Ino]
	if x.Ino == root {
		n++
	}
	return x.Holds != n
}

// mislinked tells whether an inode's Links are not the entries that lead to it, or nothing keeps it there.
func (b *book) mislinked(x api.Inode) bool {
	return x.Links != b.links[x.Ino] || x.Links < 1 && x.Holds < 1
}

// lost tells whether nobody can come to a socket.
func (b *book) lost(x api.Sock) bool {
	return b.opened[api.Obj{Kind: api.KSock, ID: x.ID}] == 0 && b.waits[x.ID] == 0
}

// loose tells whether a pipe's ends are not those that open files are of, or it has none.
func (b *book) loose(x api.Pipe) bool {
	reads, writes := b.ends[end{x.ID, false}] > 0, b.ends[end{x.ID, true}] > 0
	return x.Reads != reads || x.Writes != writes || !reads && !writes
}

// names tells all names of what is not there: those of descriptors, of open files, of what is passed, of entries, as they stand in the dump.
func (b *book) names() {
	for _, x := range b.Held {
		b.tell(api.BadName, x.Pid, b.files[x.Slot.File] == 0)
	}
	for _, x := range b.Files {
		b.tell(api.BadName, x.ID, x.Kind != api.KProc && b.there[thing(x)] == 0)
	}
	for _, x := range b.Socks {
		each(x, func(p api.Passed) { b.tell(api.BadName, x.ID, b.files[p.File] == 0) })
	}
	for _, x := range b.Inodes {
		for _, ino := range x.Inos {
			b.tell(api.BadName, x.Ino, b.there[api.Obj{Kind: api.KFile, ID: ino}] == 0)
		}
	}
}

// thing answers what an open file is of: all kinds of inodes are one.
func thing(x api.File) api.Obj {
	switch x.Kind {
	case api.KFile, api.KDir, api.KSymlink, api.KBound:
		return api.Obj{Kind: api.KFile, ID: x.Obj}
	}
	return api.Obj{Kind: x.Kind, ID: x.Obj}
}

// astray tells whether an inode is a directory with a link that does not lie in the tree. (What lies in no directory goes up to nothing, either.)
func (b *book) astray(x api.Inode) bool {
	if x.Kind != api.KDir || x.Ino == root || x.Links < 1 {
		return false
	}
	return b.entries[entry{x.Parent, x.Ino}] == 0 || !b.climbs(x.Parent)
}

// climbs tells whether the root is come to by going up from a directory. What was found is kept for all directories on the way: a way that comes to one of them again, strays.
func (b *book) climbs(ino int) bool {
	found := strays
	var way []int
climbing:
	for {
		next, there := b.up[ino]
		switch {
		case there && ino == root, b.climbed[ino] == comes:
			found = comes
			break climbing
		case !there, b.climbed[ino] == strays:
			break climbing
		}
		b.climbed[ino] = strays
		way = append(way, ino)
		ino = next
	}
	for _, ino := range way {
		b.climbed[ino] = found
	}
	return found == comes
}

// passes tells of each number of a fault of the kind TooMany, from 1 on, whether there is more than l says.
func (b *book) passes(l api.Limits) [7]bool {
	more := [7]bool{len(b.Procs) > l.Procs, len(b.Files) > l.Files, len(b.Inodes) > l.Inodes, blocks(b.Dump) > l.Blocks, b.crowded(l.Fds)}
	for _, x := range b.Pipes {
		more[5] = more[5] || len(x.B) > l.Pipe
	}
	for _, x := range b.Socks {
		n := 0
		for _, part := range x.Parts {
			n += len(part.B)
		}
		more[6] = more[6] || n > l.Sock
	}
	return more
}

// crowded tells whether a process has more descriptors than so many, or one with a number that there can't be then.
func (b *book) crowded(most int) bool {
	for _, x := range b.Procs {
		if b.fds[x.Pid] > most {
			return true
		}
	}
	for _, x := range b.Held {
		if b.fds[x.Pid] > most || x.Fd < 0 || x.Fd >= most {
			return true
		}
	}
	return false
}
