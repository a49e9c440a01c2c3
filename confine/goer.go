package confine

import "purlieu/api"

// How a thing is come to. By being in a directory nobody goes on from it: neither to what lies in it, nor to what is bound to it.
const (
	alone   = 1 + iota // it is come to itself
	through            // and what is behind it
)

// goer goes from thing to thing. Numbers lead it: what they name need not be there.
type goer struct {
	*index
	come map[api.Obj]int // what was come to, and how
	todo []api.Obj       // from what is to be gone on
}

// from answers what is come to from a process.
func (x *index) from(pid int) map[api.Obj]int {
	g := &goer{index: x, come: map[api.Obj]int{}}
	g.to(api.KProc, pid, through)
going:
	for {
		switch o := g.next(); o.Kind {
		case api.KFile:
			g.fromInode(o)
		case api.KSock:
			g.fromSock(o)
		case api.KProc:
			g.fromProc(o)
		case 0:
			break going
		}
	}
	return g.come
}

// next answers from what is to be gone on, and nothing, if all has been.
func (g *goer) next() api.Obj {
	if len(g.todo) == 0 {
		return api.Obj{}
	}
	last := len(g.todo) - 1
	o := g.todo[last]
	g.todo = g.todo[:last]
	return o
}

// to comes to a thing. It is gone on from once, even if it was come to alone ahead of that.
func (g *goer) to(kind, id, how int) {
	o := api.Obj{Kind: kind, ID: id}
	if g.come[o] >= how {
		return
	}
	g.come[o] = how
	if how == through {
		g.todo = append(g.todo, o)
	}
}

// file comes to what an open file is of.
func (g *goer) file(id int) {
	i, there := g.files[id]
	if !there {
		return
	}
	switch f := g.Files[i]; f.Kind {
	case api.KFile, api.KDir:
		g.to(api.KFile, f.Obj, through)
	case api.KPipe, api.KSock, api.KProc:
		g.to(f.Kind, f.Obj, through)
	}
}

// fromInode goes on from an inode that is open, or lies below one that is.
func (g *goer) fromInode(o api.Obj) {
	for _, id := range g.bound[o.ID] {
		g.to(api.KSock, id, through)
	}
	i, there := g.at[o]
	if !there || g.Inodes[i].Kind != api.KDir {
		return
	}
	for _, ino := range g.Inodes[i].Inos {
		g.to(api.KFile, ino, through)
	}
}

// fromSock goes on from a socket.
func (g *goer) fromSock(o api.Obj) {
	i, there := g.at[o]
	if !there {
		return
	}
	x := g.Socks[i]
	if x.Peer != 0 {
		g.to(api.KSock, x.Peer, through)
	}
	for _, id := range x.Waits {
		g.to(api.KSock, id, through)
	}
	for _, part := range x.Parts {
		for _, p := range part.L {
			g.file(p.File)
		}
	}
}

// fromProc goes on from a process.
func (g *goer) fromProc(o api.Obj) {
	if i, there := g.at[o]; there && g.Procs[i].Cwd != 0 {
		g.to(api.KFile, g.Procs[i].Cwd, alone)
	}
	for _, id := range g.held[o.ID] {
		g.file(id)
	}
}
