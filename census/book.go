package census

import "purlieu/api"

// The first process, which has no parent, and the root, which lies in itself.
const (
	first = 1
	root  = 1
)

// end is one end of a pipe.
type end struct {
	pipe   int
	writes bool
}

// entry leads from a directory to an inode.
type entry struct{ dir, ino int }

// joint is a socket, and what it tells its other end is.
type joint struct{ sock, peer int }

// book is a dump, and how often it has what each thing is asked for, so that its lists need not be gone through for each thing anew.
type book struct {
	api.Dump
	there   map[api.Obj]int // inodes (KFile, whatever their kind), pipes and sockets
	opened  map[api.Obj]int // open files, by what they are of; the kind is the open file's
	files   map[int]int     // open files, by their numbers
	named   map[int]int     // descriptors and what is passed, by the open file
	fds     map[int]int     // descriptors, by the process
	ends    map[end]int     // open files, by the end of a pipe
	waits   map[int]int     // those that wait at sockets
	peers   map[joint]int   // sockets
	links   map[int]int     // entries, by where they lead to
	entries map[entry]int   // entries
	living  map[int]int     // processes that live, by their numbers
	within  map[int]int     // processes that live, by the directory that they are in
	up      map[int]int     // directories: each one's number leads to where it lies
	climbed map[int]int     // what is known of going up from directories: comes, or strays
	told    map[api.Fault]int
	faults  []api.Fault
}

// counted counts all of a dump.
func counted(d api.Dump) *book {
	b := &book{
		Dump: d, there: map[api.Obj]int{}, opened: map[api.Obj]int{}, files: map[int]int{}, named: map[int]int{}, fds: map[int]int{},
		ends: map[end]int{}, waits: map[int]int{}, peers: map[joint]int{}, links: map[int]int{}, entries: map[entry]int{},
		living: map[int]int{}, within: map[int]int{}, up: map[int]int{}, climbed: map[int]int{}, told: map[api.Fault]int{},
	}
	b.readProcs()
	b.readFiles()
	b.readSocks()
	b.readInodes()
	return b
}

// readProcs counts processes, and their descriptors.
func (b *book) readProcs() {
	for _, x := range b.Procs {
		if x.Lives {
			b.living[x.Pid]++
			b.within[x.Cwd]++
		}
	}
	for _, x := range b.Held {
		b.named[x.Slot.File]++
		b.fds[x.Pid]++
	}
}

// readFiles counts open files, and pipes.
func (b *book) readFiles() {
	for _, x := range b.Files {
		b.files[x.ID]++
		b.opened[api.Obj{Kind: x.Kind, ID: x.Obj}]++
		if x.Kind == api.KPipe {
			b.ends[end{x.Obj, x.Flags&api.OWrite != 0}]++
		}
	}
	for _, x := range b.Pipes {
		b.there[api.Obj{Kind: api.KPipe, ID: x.ID}]++
	}
}

// readSocks counts sockets, and what waits at them and in them.
func (b *book) readSocks() {
	for _, x := range b.Socks {
		b.there[api.Obj{Kind: api.KSock, ID: x.ID}]++
		b.peers[joint{x.ID, x.Peer}]++
		for _, id := range x.Waits {
			b.waits[id]++
		}
		each(x, func(p api.Passed) { b.named[p.File]++ })
	}
}

// readInodes counts inodes, and entries. Of two directories with one number the first one says where it lies.
func (b *book) readInodes() {
	for _, x := range b.Inodes {
		b.there[api.Obj{Kind: api.KFile, ID: x.Ino}]++
		for _, ino := range x.Inos {
			b.links[ino]++
			b.entries[entry{x.Ino, ino}]++
		}
		if _, known := b.up[x.Ino]; x.Kind == api.KDir && !known {
			b.up[x.Ino] = x.Parent
		}
	}
}

// each does something with all that is passed and waits in a socket.
func each(x api.Sock, do func(p api.Passed)) {
	for _, part := range x.Parts {
		for _, p := range part.L {
			do(p)
		}
	}
}

// tell lays a fault down, if it is one and was not told before.
func (b *book) tell(kind, id int, wrong bool) {
	f := api.Fault{Kind: kind, ID: id}
	if wrong && b.told[f] == 0 {
		b.told[f]++
		b.faults = append(b.faults, f)
	}
}
