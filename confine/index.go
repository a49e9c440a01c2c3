package confine

import (
	"bytes"
	"slices"

	"purlieu/api"
)

// index is a dump in which all is found by its number, so that its lists need not be gone through for each thing anew. Of several of one number the first counts.
type index struct {
	api.Dump
	at    map[api.Obj]int // things, by their places in their lists
	files map[int]int     // open files likewise
	held  map[int][]int   // the open files that a process's descriptors name
	bound map[int][]int   // the sockets that are bound to an inode
}

// indexed answers the index of a dump.
func indexed(d api.Dump) *index {
	x := &index{d, map[api.Obj]int{}, map[int]int{}, map[int][]int{}, map[int][]int{}}
	for i, y := range d.Inodes {
		lay(x.at, api.Obj{Kind: api.KFile, ID: y.Ino}, i)
	}
	for i, y := range d.Pipes {
		lay(x.at, api.Obj{Kind: api.KPipe, ID: y.ID}, i)
	}
	for i, y := range d.Socks {
		if lay(x.at, api.Obj{Kind: api.KSock, ID: y.ID}, i) && y.Bound != 0 {
			x.bound[y.Bound] = append(x.bound[y.Bound], y.ID)
		}
	}
	for i, y := range d.Procs {
		lay(x.at, api.Obj{Kind: api.KProc, ID: y.Pid}, i)
	}
	for i, y := range d.Files {
		lay(x.files, y.ID, i)
	}
	for _, y := range d.Held {
		x.held[y.Pid] = append(x.held[y.Pid], y.Slot.File)
	}
	return x
}

// lay notes at which place that stands which k names, and tells whether it is the first one.
func lay[K comparable](places map[K]int, k K, i int) bool {
	if _, known := places[k]; known {
		return false
	}
	places[k] = i
	return true
}

// same tells whether a thing of x is in y, and no other one there.
func (x *index) same(y *index, o api.Obj) bool {
	j, there := y.at[o]
	if !there {
		return false
	}
	i := x.at[o]
	switch o.Kind {
	case api.KFile:
		return sameInode(x.Inodes[i], y.Inodes[j])
	case api.KPipe:
		return x.Pipes[i] == y.Pipes[j]
	case api.KSock:
		return sameSock(x.Socks[i], y.Socks[j])
	}
	return sameProc(x.Procs[i], y.Procs[j])
}

// sameInode tells whether two inodes are one: their counts and where they lie are others' doings, too.
func sameInode(a, b api.Inode) bool {
	return a.Kind == b.Kind && a.Text == b.Text && slices.Equal(a.Names, b.Names) && slices.Equal(a.Inos, b.Inos)
}

// sameProc tells whether two processes are one: who the parent is, hangs on whether that one lives.
func sameProc(a, b api.Proc) bool {
	a.Parent = b.Parent
	return a == b
}

// sameSock tells whether two sockets are one.
func sameSock(a, b api.Sock) bool {
	return a.State == b.State && a.Peer == b.Peer && a.Bound == b.Bound && a.Most == b.Most && slices.Equal(a.Waits, b.Waits) &&
		a.ShutR == b.ShutR && a.ShutW == b.ShutW && slices.EqualFunc(a.Parts, b.Parts, samePart)
}

// samePart tells whether two parts are one.
func samePart(a, b api.Part) bool {
	return bytes.Equal(a.B, b.B) && slices.EqualFunc(a.L, b.L, func(p, q api.Passed) bool {
		return p.File == q.File && p.Rights == q.Rights && p.Fcntls == q.Fcntls && p.Ioctls.All == q.Ioctls.All && slices.Equal(p.Ioctls.L, q.Ioctls.L)
	})
}
