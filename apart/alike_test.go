package apart

import (
	"slices"
	"testing"

	"purlieu/api"
)

// likens holds each turned scene beside the scene against what is written.
func likens(t *testing.T, l []turned) {
	t.Helper()
	for _, x := range l {
		a, b := scene(), scene()
		x.turn(&b)
		if got, turned := Alike(a, b, ours()), Alike(b, a, ours()); got != x.want || turned != x.want {
			t.Error(x.name, got, turned)
		}
		alike(t, x.name, a, b, ours(), sees(a, ours()), sees(b, ours()))
		x.turn(&a)
		if got, want := Alike(a, b, ours()), Sealed(a, ours()); got != want {
			t.Error(x.name, "in both", got)
		}
	}
}

// P29.4: groups of all kinds in the scene; where it is not sealed, it is not alike, not even the same dump.
func TestAlikeGroups(t *testing.T) {
	for i, pids := range [][]int{{2, 3}, {3, 2, 2}, nil, {}, {2}, {3}, {1}, {1, 5}, {2, 3, 5}, {2, 3, 9}, {4}, {9}, {0}, {-1}} {
		if got := Alike(scene(), scene(), pids); got != (i < 2) {
			t.Error(pids, got)
		}
	}
	if Alike(api.Dump{}, api.Dump{}, nil) || Alike(api.Dump{}, api.Dump{}, []int{1}) || Alike(scene(), api.Dump{}, ours()) || Alike(api.Dump{}, scene(), ours()) {
		t.Error("of nothing")
	}
}

// P29.4: sealed in one alone, whatever the Parts are.
func TestAlikeSealed(t *testing.T) {
	likens(t, []turned{
		{"the scene", func(d *api.Dump) {}, true},
		{"another one's descriptor", func(d *api.Dump) { d.Held[0].Slot.File = 4 }, false},
		{"another one's open file", func(d *api.Dump) { d.Files[7].Obj = 5 }, false},
		{"it waits in another socket", func(d *api.Dump) { d.Socks[4].Parts[0].L[0].File = 7 }, false},
		{"another one's descriptor, of others", func(d *api.Dump) { d.Held[0].Slot.File = 9 }, true},
		{"another one's open file, of others", func(d *api.Dump) { d.Files[7].Obj = 2 }, true},
	})
}

// P29.4: each field of what is the group's.
func TestAlikeWithin(t *testing.T) {
	for name, turn := range map[string]func(d *api.Dump){
		"a parent":                 func(d *api.Dump) { d.Procs[1].Parent = 5 },
		"a code":                   func(d *api.Dump) { d.Procs[1].Code = 5 },
		"a descriptor for it":      func(d *api.Dump) { d.Procs[1].Pd = true },
		"where one is":             func(d *api.Dump) { d.Procs[1].Cwd = 2 },
		"one in nothing":           func(d *api.Dump) { d.Procs[1].Cwd = 0 },
		"another order":            func(d *api.Dump) { d.Procs[1], d.Procs[2] = d.Procs[2], d.Procs[1] },
		"one ended":                func(d *api.Dump) { d.Procs[2].Lives = false },
		"one not in the mode":      func(d *api.Dump) { d.Procs[2].Cap = false },
		"another process":          func(d *api.Dump) { d.Procs[2].Pid = 9 },
		"whose descriptor":         func(d *api.Dump) { d.Held[4].Pid = 3 },
		"which descriptor":         func(d *api.Dump) { d.Held[4].Fd = 9 },
		"its open file":            func(d *api.Dump) { d.Held[4].Slot.File = 4 },
		"its rights":               func(d *api.Dump) { d.Held[4].Slot.Rights = 1 },
		"its commands":             func(d *api.Dump) { d.Held[4].Slot.Ioctls.L = []int{1, 4} },
		"a command less":           func(d *api.Dump) { d.Held[4].Slot.Ioctls.L = []int{1} },
		"no command":               func(d *api.Dump) { d.Held[4].Slot.Ioctls.L = nil },
		"all commands":             func(d *api.Dump) { d.Held[4].Slot.Ioctls.All = true },
		"its commands of fcntl":    func(d *api.Dump) { d.Held[4].Slot.Fcntls = 0 },
		"a descriptor less":        func(d *api.Dump) { d.Held = slices.Delete(d.Held, 4, 5) },
		"a descriptor more":        func(d *api.Dump) { d.Held = append(d.Held, held(3, 5)...) },
		"who waits":                func(d *api.Dump) { d.Parks[1].Pid = 3 },
		"with which call":          func(d *api.Dump) { d.Parks[1].Req.No = 3 },
		"a number":                 func(d *api.Dump) { d.Parks[1].Req.A[4] = 3 },
		"a text":                   func(d *api.Dump) { d.Parks[1].Req.S = "x" },
		"a second text":            func(d *api.Dump) { d.Parks[1].Req.T = "x" },
		"its numbers":              func(d *api.Dump) { d.Parks[1].Req.L = []int{2, 2} },
		"a number less":            func(d *api.Dump) { d.Parks[1].Req.L = []int{2} },
		"nobody waits":             func(d *api.Dump) { d.Parks = d.Parks[:1] },
		"two wait":                 func(d *api.Dump) { d.Parks = append(d.Parks, api.Park{Pid: 3}) },
		"an open file's number":    func(d *api.Dump) { d.Files[0].ID, d.Held[3].Slot.File = 99, 99 },
		"its kind":                 func(d *api.Dump) { d.Files[0].Kind = api.KFile },
		"of what it is":            func(d *api.Dump) { d.Files[4].Obj = 9 },
		"where it stands":          func(d *api.Dump) { d.Files[0].Off = 1 },
		"its flags":                func(d *api.Dump) { d.Files[4].Flags = 5 },
		"how many name it":         func(d *api.Dump) { d.Files[0].Refs = 2 },
		"where a passed one is":    func(d *api.Dump) { d.Files[6].Off = 1 },
		"an open file less":        func(d *api.Dump) { d.Files[5] = api.File{ID: 98} },
		"a pipe's number":          func(d *api.Dump) { d.Pipes[0].ID, d.Files[3].Obj, d.Files[4].Obj = 9, 9, 9 },
		"its reading end":          func(d *api.Dump) { d.Pipes[0].Reads = false },
		"its writing end":          func(d *api.Dump) { d.Pipes[0].Writes = false },
		"its bytes":                func(d *api.Dump) { d.Pipes[0].B = "x" },
		"a pipe less":              func(d *api.Dump) { d.Pipes = d.Pipes[1:] },
		"a socket's number":        func(d *api.Dump) { d.Socks[5].ID, d.Socks[2].Waits = 8, []int{8} },
		"its state":                func(d *api.Dump) { d.Socks[5].State = 0 },
		"its peer":                 func(d *api.Dump) { d.Socks[1].Peer = 0 },
		"to what it is bound":      func(d *api.Dump) { d.Socks[2].Bound = 5 },
		"how many may wait":        func(d *api.Dump) { d.Socks[2].Most = 3 },
		"who waits at it":          func(d *api.Dump) { d.Socks[2].Waits = []int{6, 6} },
		"shut for reading":         func(d *api.Dump) { d.Socks[0].ShutR = false },
		"shut for writing":         func(d *api.Dump) { d.Socks[0].ShutW = true },
		"its parts":                func(d *api.Dump) { d.Socks[1].Parts = d.Socks[1].Parts[:1] },
		"their bytes":              func(d *api.Dump) { d.Socks[1].Parts[0].B = []byte("xz") },
		"fewer bytes":              func(d *api.Dump) { d.Socks[1].Parts[1].B = nil },
		"what is passed":           func(d *api.Dump) { d.Socks[1].Parts[0].L[0].File = 2 },
		"passed rights":            func(d *api.Dump) { d.Socks[1].Parts[0].L[0].Rights = 0 },
		"passed commands":          func(d *api.Dump) { d.Socks[1].Parts[0].L[0].Ioctls.L = []int{3} },
		"all passed commands":      func(d *api.Dump) { d.Socks[1].Parts[0].L[0].Ioctls.All = true },
		"passed commands of fcntl": func(d *api.Dump) { d.Socks[1].Parts[0].L[0].Fcntls = 0 },
		"passed twice":             func(d *api.Dump) { d.Socks[1].Parts[1] = api.Part{B: []byte("z"), L: d.Socks[1].Parts[0].L} },
		"a socket less":            func(d *api.Dump) { d.Socks = d.Socks[:5] },
		"an inode's number":        func(d *api.Dump) { d.Inodes[5].Ino, d.Inodes[3].Inos, d.Socks[2].Bound = 9, []int{5, 9}, 9 },
		"an inode's kind":          func(d *api.Dump) { d.Inodes[5].Kind = api.KFile },
		"its links":                func(d *api.Dump) { d.Inodes[4].Links = 2 },
		"its holds":                func(d *api.Dump) { d.Inodes[4].Holds = 2 },
		"where it lies":            func(d *api.Dump) { d.Inodes[3].Parent = 2 },
		"its text":                 func(d *api.Dump) { d.Inodes[4].Text = "texT" },
		"its blocks":               func(d *api.Dump) { d.Inodes[4].Blocks, d.Inodes[6].Blocks = 2, 1 },
		"its names":                func(d *api.Dump) { d.Inodes[3].Names = []string{"f", "t"} },
		"its entries":              func(d *api.Dump) { d.Inodes[3].Inos = []int{6, 5} },
		"an inode less":            func(d *api.Dump) { d.Inodes[5].Ino = 9 },
		"the next process":         func(d *api.Dump) { d.Next[0]++ },
		"the next open file":       func(d *api.Dump) { d.Next[1]-- },
		"the next pipe":            func(d *api.Dump) { d.Next[2]++ },
		"the next socket":          func(d *api.Dump) { d.Next[3] = -1 },
		"the next inode":           func(d *api.Dump) { d.Next[4]++ },
	} {
		likens(t, []turned{{name, turn, false}})
	}
}

// P29.4: what is outside, how much room there is, and the directories in which one of the group only is.
func TestAlikeOutside(t *testing.T) {
	likens(t, []turned{
		{"others' numbers", func(d *api.Dump) { d.Procs[0].Pid, d.Procs[4].Pid = 5, 1 }, true},
		{"others' states", func(d *api.Dump) {
			d.Procs[0] = api.Proc{Pid: 1, Parent: 4, Lives: false, Code: 9, Pd: true, Cap: true, Cwd: 7}
		}, true},
		{"a process less", func(d *api.Dump) { d.Procs = d.Procs[1:] }, false},
		{"a process more", func(d *api.Dump) { d.Procs = append(d.Procs, api.Proc{Pid: 9}) }, false},
		{"a process of a number more", func(d *api.Dump) { d.Procs = append(d.Procs, api.Proc{Pid: 1}) }, false},
		{"others' descriptors", func(d *api.Dump) { d.Held = append(d.Held[3:9], held(7, 8, 9)...) }, true},
		{"others wait", func(d *api.Dump) { d.Parks = append(d.Parks[1:], api.Park{Pid: 5}) }, true},
		{"others' open files", func(d *api.Dump) { d.Files[8] = api.File{ID: 98, Kind: api.KDir, Obj: 2, Off: 1, Flags: 2, Refs: 3} }, true},
		{"an open file less", func(d *api.Dump) { d.Files = d.Files[:9] }, false},
		{"an open file more", func(d *api.Dump) { d.Files = append(d.Files, api.File{ID: 98}) }, false},
		{"others' pipes", func(d *api.Dump) { d.Pipes[1] = api.Pipe{ID: 3, Writes: true} }, true},
		{"a pipe less", func(d *api.Dump) { d.Pipes = d.Pipes[:1] }, true},
		{"others' sockets", func(d *api.Dump) { d.Socks[3] = api.Sock{ID: 9, State: 1, Bound: 7, Waits: []int{5}, ShutR: true} }, true},
		{"a socket more", func(d *api.Dump) { d.Socks = append(d.Socks, api.Sock{ID: 9}) }, true},
		{"what waits there", func(d *api.Dump) { d.Socks[4].Parts = []api.Part{part(9, 10, 97)} }, true},
		{"others' inodes", func(d *api.Dump) {
			d.Inodes[0] = api.Inode{Ino: 1, Kind: api.KFile, Links: 9, Holds: 9, Parent: 9, Text: "x", Names: []string{"x"}, Inos: []int{4}}
		}, true},
		{"their numbers", func(d *api.Dump) { d.Inodes[0].Ino = 9 }, true},
		{"an inode less", func(d *api.Dump) { d.Inodes = d.Inodes[1:] }, false},
		{"an inode more", func(d *api.Dump) { d.Inodes = append(d.Inodes, api.Inode{Ino: 9}) }, false},
		{"their blocks", func(d *api.Dump) { d.Inodes[6].Blocks = 3 }, false},
		{"their blocks, as many in all", func(d *api.Dump) { d.Inodes[6].Blocks, d.Inodes[1].Blocks = 1, 1 }, true},
		{"the links of where one is", func(d *api.Dump) { d.Inodes[2].Links = 0 }, false},
		{"the holds of where one is", func(d *api.Dump) { d.Inodes[2].Holds = 2 }, false},
		{"where one is, in another place, with something in it", func(d *api.Dump) {
			d.Inodes[2] = api.Inode{Ino: 3, Kind: api.KFile, Links: 1, Holds: 1, Parent: 2, Text: "x", Names: []string{"x"}, Inos: []int{7}}
		}, true},
		{"where one is, gone", func(d *api.Dump) { d.Inodes[2].Ino = 9 }, false},
		{"where one is, twice", func(d *api.Dump) {
			d.Inodes[1], d.Inodes[2] = d.Inodes[2], api.Inode{Ino: 3, Links: 9, Holds: 9}
		}, true},
		{"where one is, twice, another one first", func(d *api.Dump) { d.Inodes[1] = api.Inode{Ino: 3, Links: 1, Holds: 2} }, false},
		{"where one is, twice, such a one first", func(d *api.Dump) { d.Inodes[1] = api.Inode{Ino: 3, Links: 1, Holds: 1} }, true},
	})
}

// P29.4: a directory in which one of the group is, that is in neither; one in which several are; no directory.
func TestAlikePlaces(t *testing.T) {
	places := func(cwds ...int) api.Dump {
		d := scene()
		d.Procs[1].Cwd, d.Procs[2].Cwd = cwds[0], cwds[1]
		return d
	}
	turns := func(d api.Dump, i, links, holds int) api.Dump {
		d.Inodes[i].Links, d.Inodes[i].Holds = links, holds
		return d
	}
	zero := func(d api.Dump, links int) api.Dump {
		d.Inodes[1] = api.Inode{Links: links}
		return d
	}
	for _, x := range []struct {
		name string
		a, b api.Dump
		want bool
	}{
		{"in neither", places(99, -1), places(99, -1), true},
		{"in neither, and others differ", places(99, -1), turns(places(99, -1), 2, 5, 5), true},
		{"the second one's, too", places(2, 3), turns(places(2, 3), 2, 1, 2), false},
		{"the second one's, too, and the first one's", places(2, 3), turns(places(2, 3), 1, 1, 2), false},
		{"both in one", places(2, 2), turns(places(2, 2), 1, 0, 0), false},
		{"both in one, and others differ", places(2, 2), turns(places(2, 2), 2, 0, 0), true},
		{"in no directory", zero(places(0, 0), 1), zero(places(0, 0), 2), true},
		{"links and holds in all as many", places(3, 4), turns(places(3, 4), 2, 2, 0), false},
	} {
		if got := Alike(x.a, x.b, ours()); got != x.want {
			t.Error(x.name, got)
		}
		alike(t, x.name, x.a, x.b, ours(), sees(x.a, ours()), sees(x.b, ours()))
	}
	gone := places(3, 4)
	gone.Inodes[2].Ino = 99
	if Alike(places(3, 4), gone, ours()) || !Alike(gone, gone, ours()) {
		t.Error("in one")
	}
}

// P29.4: nil and empty lists are the same; lists of all sorts.
func TestAlikeEmpty(t *testing.T) {
	a, b := scene(), scene()
	b.Held[4].Slot.Ioctls.L, a.Held[4].Slot.Ioctls.L = []int{}, nil
	b.Parks[1].Req.L, a.Parks[1].Req.L = []int{}, nil
	b.Socks[0].Waits, b.Socks[0].Parts = []int{}, []api.Part{}
	b.Socks[1].Parts[1].L = []api.Passed{}
	b.Socks[1].Parts[0].B, a.Socks[1].Parts[0].B = []byte{}, nil
	b.Socks[1].Parts[0].L[0].Ioctls.L, a.Socks[1].Parts[0].L[0].Ioctls.L = []int{}, nil
	b.Inodes[4].Names, b.Inodes[4].Inos = []string{}, []int{}
	if !Alike(a, b, ours()) || !Alike(b, a, ours()) {
		t.Error("empty lists")
	}
	one := api.Dump{Procs: []api.Proc{{Pid: 1, Lives: true, Cap: true}}}
	two := one
	two.Held, two.Parks, two.Files, two.Pipes, two.Socks, two.Inodes = []api.Held{}, []api.Park{}, []api.File{}, []api.Pipe{}, []api.Sock{}, []api.Inode{}
	if !Alike(one, two, []int{1}) || !Alike(two, one, []int{1}) {
		t.Error("empty dumps")
	}
}
