package apart

import (
	"bytes"
	"slices"

	"purlieu/api"
)

// same tells whether two dumps are the same.
func same(a, b api.Dump) bool {
	return slices.Equal(a.Procs, b.Procs) && slices.EqualFunc(a.Held, b.Held, sameHeld) && slices.EqualFunc(a.Parks, b.Parks, samePark) && slices.Equal(a.Files, b.Files) &&
		slices.Equal(a.Pipes, b.Pipes) && slices.EqualFunc(a.Socks, b.Socks, sameSock) && slices.EqualFunc(a.Inodes, b.Inodes, sameInode) && a.Next == b.Next
}

// sameList tells whether two whitelists are the same.
func sameList(a, b api.List) bool {
	return a.All == b.All && slices.Equal(a.L, b.L)
}

// sameHeld tells whether two descriptors are the same.
func sameHeld(a, b api.Held) bool {
	s, t := a.Slot, b.Slot
	return a.Pid == b.Pid && a.Fd == b.Fd && s.File == t.File && s.Rights == t.Rights && sameList(s.Ioctls, t.Ioctls) && s.Fcntls == t.Fcntls
}

// samePark tells whether two calls that wait are the same.
func samePark(a, b api.Park) bool {
	r, s := a.Req, b.Req
	return a.Pid == b.Pid && r.No == s.No && r.A == s.A && r.S == s.S && r.T == s.T && slices.Equal(r.L, s.L)
}

// samePassed tells whether two descriptors that are passed are the same.
func samePassed(a, b api.Passed) bool {
	return a.File == b.File && a.Rights == b.Rights && sameList(a.Ioctls, b.Ioctls) && a.Fcntls == b.Fcntls
}

// samePart tells whether two parts are the same.
func samePart(a, b api.Part) bool {
	return bytes.Equal(a.B, b.B) && slices.EqualFunc(a.L, b.L, samePassed)
}

// sameSock tells whether two sockets are the same.
func sameSock(a, b api.Sock) bool {
	return a.ID == b.ID && a.State == b.State && a.Peer == b.Peer && a.Bound == b.Bound && a.Most == b.Most && slices.Equal(a.Waits, b.Waits) &&
		a.ShutR == b.ShutR && a.ShutW == b.ShutW && slices.EqualFunc(a.Parts, b.Parts, samePart)
}

// sameInode tells whether two inodes are the same.
func sameInode(a, b api.Inode) bool {
	return a.Ino == b.Ino && a.Kind == b.Kind && a.Links == b.Links && a.Holds == b.Holds && a.Parent == b.Parent &&
		a.Text == b.Text && a.Blocks == b.Blocks && slices.Equal(a.Names, b.Names) && slices.Equal(a.Inos, b.Inos)
}

// sameRests tells whether what one of the group only is in goes just as soon in both.
func sameRests(g, h *group) bool {
	number := func(x api.Inode) int { return x.Ino }
	here, there := firsts(g.Inodes, number), firsts(h.Inodes, number)
	for pid := range g.in {
		i, lives := g.procs[pid]
		if !lives || g.Procs[i].Cwd == 0 {
			continue
		}
		j, inOne := here[g.Procs[i].Cwd]
		k, inOther := there[g.Procs[i].Cwd]
		if inOne != inOther || inOne && (g.Inodes[j].Links != h.Inodes[k].Links || g.Inodes[j].Holds != h.Inodes[k].Holds) {
			return false
		}
	}
	return true
}
