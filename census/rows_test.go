package census

import (
	"fmt"
	"math"
	"slices"
	"sync"
	"testing"

	"purlieu/api"
	"purlieu/run"
)

// holds holds what is told of a dump against the plain words, and answers it.
func holds(t *testing.T, d api.Dump, l api.Limits) []api.Fault {
	t.Helper()
	got, want := Check(d, l), plain(d, l)
	if !slices.Equal(got, want) {
		t.Fatalf("%v: %v:\n%s\nnot\n%s", l, d, show(got), show(want))
	}
	if n, m := Counts(d), counts(d); n != m {
		t.Fatalf("%v: %v, not %v", d, n, m)
	}
	return got
}

// situations counts what there is in a dump that a fault might be told of.
func situations(d api.Dump, l api.Limits, count map[string]int) {
	if len(d.Parks) > 0 {
		count["one waits"]++
	}
	for _, x := range d.Procs {
		if !x.Lives {
			count["ended"]++
		}
		if x.Lives && x.Cwd > 1 && x.Cwd < 4 {
			count["lives in a directory"]++
		}
		if x.Pid > 2 && x.Parent > 1 {
			count["a child of a child"]++
		}
	}
	for _, x := range d.Files {
		switch {
		case !slices.ContainsFunc(d.Held, func(y api.Held) bool { return y.Slot.File == x.ID }):
			count["open file that is only passed"]++
		case x.Refs > 2 && slices.ContainsFunc(passed(d.Socks...), func(y api.Passed) bool { return y.File == x.ID }):
			count["open file that is held and passed"]++
		}
		if x.Kind == api.KProc && !slices.ContainsFunc(d.Procs, func(y api.Proc) bool { return y.Pid == x.Obj }) {
			count["open file of a process that isn't there"]++
		}
		count[fmt.Sprint("open file of the kind ", x.Kind)]++
	}
	for _, x := range d.Pipes {
		count[fmt.Sprint("pipe with ends ", x.Reads, x.Writes)]++
		if len(x.B) == l.Pipe {
			count["full pipe"]++
		}
	}
	situationsOfSocks(d, l, count)
	situationsOfInodes(d, count)
	n := Counts(d)
	for i, most := range []int{l.Procs, -1, l.Files, -1, -1, l.Inodes, l.Blocks} {
		if n[i] == most && n[i] > 0 {
			count[fmt.Sprint("all of ", i)]++
		}
	}
	if slices.ContainsFunc(d.Procs, func(x api.Proc) bool {
		return howMany(d.Held, func(y api.Held) bool { return y.Pid == x.Pid }) == l.Fds
	}) {
		count["a process with all descriptors"]++
	}
}

// situationsOfSocks counts those of sockets.
func situationsOfSocks(d api.Dump, l api.Limits, count map[string]int) {
	for _, x := range d.Socks {
		with, bytes := 0, 0
		for _, part := range x.Parts {
			with += min(len(part.L), 1)
			bytes += len(part.B)
		}
		if with > 1 {
			count["passed in several parts"]++
		}
		if bytes == l.Sock {
			count["full socket"]++
		}
		if len(x.Waits) > 0 {
			count["waited at"]++
		}
		if len(x.Waits) > 1 {
			count["waited at by two"]++
		}
		if !slices.ContainsFunc(d.Files, func(y api.File) bool { return y.Kind == api.KSock && y.Obj == x.ID }) {
			count["socket that only waits"]++
		}
		if x.State == api.SockJoined && x.Peer == 0 {
			count["peer is gone"]++
		}
	}
}

// situationsOfInodes counts those of inodes.
func situationsOfInodes(d api.Dump, count map[string]int) {
	for _, x := range d.Inodes {
		if x.Links == 0 && x.Ino != 1 {
			count[fmt.Sprint("no link to the kind ", x.Kind)]++
		}
		if x.Kind == api.KDir && x.Parent != 1 && x.Links > 0 {
			count["directory in another one"]++
		}
		if x.Links > 1 {
			count["several links"]++
		}
		count[fmt.Sprint("inode of the kind ", x.Kind)]++
	}
}

// found are all situations.
var found = []string{"one waits", "ended", "lives in a directory", "a child of a child", "open file that is only passed", "open file that is held and passed", "open file of a process that isn't there", "open file of the kind 1", "open file of the kind 2", "open file of the kind 5", "open file of the kind 6", "open file of the kind 7", "pipe with ends true true", "pipe with ends true false", "pipe with ends false true", "full pipe", "passed in several parts", "full socket", "waited at", "waited at by two", "socket that only waits", "peer is gone", "no link to the kind 1", "no link to the kind 2", "directory in another one", "several links", "inode of the kind 3", "inode of the kind 4", "all of 0", "all of 2", "all of 5", "all of 6", "a process with all descriptors"}

// twisted turns one thing in a copy of a dump, and counts what it is.
func twisted(d api.Dump, dice func(n int) int, count map[string]int) api.Dump {
	d = copied(d)
	ints := numbers(&d)
	switch x := dice(12); {
	case x == 0 && len(d.Procs) > 0:
		i := dice(len(d.Procs))
		d.Procs[i].Lives = !d.Procs[i].Lives
		count["lives"]++
	case x == 1 && len(d.Pipes) > 0:
		i := dice(len(d.Pipes))
		if dice(2) == 0 {
			d.Pipes[i].Reads = !d.Pipes[i].Reads
		} else {
			d.Pipes[i].Writes = !d.Pipes[i].Writes
		}
		count["ends"]++
	case x == 2:
		lacks(&d, dice)
		count["lacks"]++
	case x == 3:
		doubles(&d, dice)
		count["doubles"]++
	case x == 4 && len(d.Pipes)+len(d.Socks) > 0:
		if i := dice(len(d.Pipes) + len(d.Socks)); i < len(d.Pipes) {
			d.Pipes[i].B += "hello"
		} else {
			d.Socks[i-len(d.Pipes)].Parts = append(d.Socks[i-len(d.Pipes)].Parts, api.Part{B: []byte("hello")})
		}
		count["bytes"]++
	default:
		at := ints[dice(len(ints))]
		*at = []int{*at + 1, *at - 1, *at + 2, 0, -1, 1 + dice(9), 1 + dice(9), 99, math.MinInt, math.MaxInt}[dice(10)]
		count["number"]++
	}
	return d
}

// copied answers a dump of its own memory.
func copied(d api.Dump) api.Dump {
	d.Procs, d.Held, d.Files, d.Pipes, d.Socks, d.Inodes = slices.Clone(d.Procs), slices.Clone(d.Held), slices.Clone(d.Files), slices.Clone(d.Pipes), slices.Clone(d.Socks), slices.Clone(d.Inodes)
	for i, x := range d.Socks {
		d.Socks[i].Waits, d.Socks[i].Parts = slices.Clone(x.Waits), slices.Clone(x.Parts)
		for j, part := range x.Parts {
			d.Socks[i].Parts[j] = api.Part{B: slices.Clone(part.B), L: slices.Clone(part.L)}
		}
	}
	for i, x := range d.Inodes {
		d.Inodes[i].Names, d.Inodes[i].Inos = slices.Clone(x.Names), slices.Clone(x.Inos)
	}
	return d
}

// numbers answers where all numbers of a dump stand that Check looks at.
func numbers(d *api.Dump) (l []*int) {
	for i := range d.Procs {
		l = append(l, &d.Procs[i].Pid, &d.Procs[i].Parent, &d.Procs[i].Cwd)
	}
	for i := range d.Held {
		l = append(l, &d.Held[i].Pid, &d.Held[i].Fd, &d.Held[i].Slot.File)
	}
	for i := range d.Files {
		l = append(l, &d.Files[i].ID, &d.Files[i].Kind, &d.Files[i].Obj, &d.Files[i].Flags, &d.Files[i].Refs)
	}
	for i := range d.Pipes {
		l = append(l, &d.Pipes[i].ID)
	}
	for i, x := range d.Socks {
		l = append(l, &d.Socks[i].ID, &d.Socks[i].Peer)
		for j := range x.Waits {
			l = append(l, &x.Waits[j])
		}
		for j := range x.Parts {
			for k := range x.Parts[j].L {
				l = append(l, &x.Parts[j].L[k].File)
			}
		}
	}
	for i, x := range d.Inodes {
		l = append(l, &d.Inodes[i].Ino, &d.Inodes[i].Kind, &d.Inodes[i].Links, &d.Inodes[i].Holds, &d.Inodes[i].Parent, &d.Inodes[i].Blocks)
		for j := range x.Inos {
			l = append(l, &x.Inos[j])
		}
	}
	if len(l) == 0 {
		l = append(l, &d.Next[0])
	}
	return l
}

// lack answers a list without one of it.
func lack[T any](l []T, dice func(n int) int) []T {
	if len(l) == 0 {
		return nil
	}
	i := dice(len(l))
	return slices.Delete(l, i, i+1)
}

// double answers a list with one of it twice.
func double[T any](l []T, dice func(n int) int) []T {
	if len(l) == 0 {
		return nil
	}
	return slices.Insert(l, dice(len(l)+1), l[dice(len(l))])
}

// lacks takes one thing from a list of a dump.
func lacks(d *api.Dump, dice func(n int) int) {
	switch dice(7) {
	case 0:
		d.Procs = lack(d.Procs, dice)
	case 1:
		d.Held = lack(d.Held, dice)
	case 2:
		d.Files = lack(d.Files, dice)
	case 3:
		d.Pipes = lack(d.Pipes, dice)
	case 4:
		d.Socks = lack(d.Socks, dice)
	case 5:
		d.Inodes = lack(d.Inodes, dice)
	case 6:
		for i, x := range d.Inodes {
			d.Inodes[i].Inos = lack(x.Inos, dice)
		}
	}
}

// doubles puts one thing of a list of a dump there twice.
func doubles(d *api.Dump, dice func(n int) int) {
	switch dice(7) {
	case 0:
		d.Procs = double(d.Procs, dice)
	case 1:
		d.Held = double(d.Held, dice)
	case 2:
		d.Files = double(d.Files, dice)
	case 3:
		d.Pipes = double(d.Pipes, dice)
	case 4:
		d.Socks = double(d.Socks, dice)
	case 5:
		d.Inodes = double(d.Inodes, dice)
	case 6:
		for i, x := range d.Inodes {
			d.Inodes[i].Inos = double(x.Inos, dice)
		}
	}
}

// tally counts faults, by kinds, and how many of a kind there are at once.
func tally(l []api.Fault, count map[string]int) {
	if len(l) == 0 {
		count["none"]++
	}
	for kind := 1; kind <= 10; kind++ {
		n := howMany(l, func(f api.Fault) bool { return f.Kind == kind })
		for i := range n {
			count[fmt.Sprint("kind ", kind, ": ", i+1)]++
		}
	}
	for _, f := range l {
		if f.Kind == api.TooMany {
			count[fmt.Sprint("many ", f.ID)]++
		}
	}
}

// often tells what didn't come so often.
func often(t *testing.T, count map[string]int, n int, l ...string) {
	t.Helper()
	for _, what := range l {
		if count[what] < n {
			t.Errorf("%d times in all: %s", count[what], what)
		}
	}
}

// kinds are the names of all kinds of faults, in tally, so many of a kind at once.
func kinds(n int) (l []string) {
	for kind := 1; kind <= 10; kind++ {
		l = append(l, fmt.Sprint("kind ", kind, ": ", n))
	}
	for i := 1; i <= 7; i++ {
		l = append(l, fmt.Sprint("many ", i))
	}
	return l
}

// P26.1 to P26.3: behind every step of scripts of every sort there is no fault; and what there is with one thing turned, against the plain words.
func TestScripts(t *testing.T) {
	var counts sync.Mutex
	count, turned, faults := map[string]int{}, map[string]int{}, map[string]int{}
	script := func(t *testing.T, seed int) {
		dice := dice(uint64(seed))
		l := limits(dice)
		p := begins(l, dice)
		begin := opening()[:dice(len(opening())+1)]
		seen, twists, told := map[string]int{}, map[string]int{}, map[string]int{}
		for i := range 250 {
			if f := Check(p.now, l); len(f) != 0 {
				t.Fatalf("seed %d, step %d: %v: %v: %s", seed, i, l, p.now, show(f))
			}
			situations(p.now, l, seen)
			if i%5 == 0 {
				holds(t, p.now, l)
				d := twisted(p.now, dice, twists)
				tally(holds(t, d, l), told)
				tally(holds(t, twisted(d, dice, twists), l), told)
			}
			if i < len(begin) {
				p.does(begin[i])
			} else {
				p.does(p.step())
			}
		}
		counts.Lock()
		defer counts.Unlock()
		for _, x := range [][2]map[string]int{{count, seen}, {turned, twists}, {faults, told}} {
			for what, n := range x[1] {
				x[0][what] += n
			}
		}
	}
	t.Run("scripts", func(t *testing.T) {
		for part := range 8 {
			t.Run("", func(t *testing.T) {
				t.Parallel()
				for i := range 250 {
					script(t, part*1000+i)
				}
			})
		}
	})
	often(t, count, 100, found...)
	often(t, turned, 1000, "lives", "ends", "lacks", "doubles", "bytes", "number")
	often(t, faults, 50, kinds(1)...)
	often(t, faults, 50, "none", "kind 7: 2")
}

// scattered answers a dump of small numbers, that nothing keeps together.
func scattered(dice func(n int) int) (d api.Dump, l api.Limits) {
	small := 2 + dice(5)
	n := func() int { return dice(small) - dice(20)/19 }
	list := func() (l []int) {
		for range dice(4) {
			l = append(l, n())
		}
		return l
	}
	for range dice(5) {
		d.Procs = append(d.Procs, api.Proc{Pid: n(), Parent: n(), Lives: dice(3) > 0, Cwd: n()})
	}
	for range dice(7) {
		d.Held = append(d.Held, api.Held{Pid: n(), Fd: n(), Slot: api.Slot{File: n()}})
	}
	for range dice(6) {
		d.Files = append(d.Files, api.File{ID: n(), Kind: dice(9), Obj: n(), Flags: dice(16), Refs: dice(4)})
	}
	for range dice(4) {
		d.Pipes = append(d.Pipes, api.Pipe{ID: n(), Reads: dice(2) == 0, Writes: dice(2) == 0, B: "abcdefgh"[:dice(7)]})
	}
	for range dice(5) {
		x := api.Sock{ID: n(), Peer: n(), Waits: list()}
		for range dice(3) {
			part := api.Part{B: make([]byte, dice(4))}
			for _, id := range list() {
				part.L = append(part.L, api.Passed{File: id})
			}
			x.Parts = append(x.Parts, part)
		}
		d.Socks = append(d.Socks, x)
	}
	for range dice(9) {
		x := api.Inode{Ino: n(), Kind: 1 + dice(4), Links: n(), Holds: n(), Parent: n(), Blocks: n(), Inos: list()}
		if dice(2) == 0 {
			x.Kind = api.KDir
		}
		d.Inodes = append(d.Inodes, x)
	}
	return d, api.Limits{Procs: dice(6) - 1, Fds: dice(6) - 1, Files: dice(6) - 1, Inodes: dice(9) - 1, Blocks: dice(12) - 1, Pipe: dice(8) - 1, Sock: dice(7) - 1}
}

// P26.1, P26.2: dumps of small numbers, the same ones often, against the plain words.
func TestScattered(t *testing.T) {
	t.Parallel()
	dice, faults := dice(3), map[string]int{}
	for range 60000 {
		d, l := scattered(dice)
		tally(holds(t, d, l), faults)
	}
	often(t, faults, 100, kinds(1)...)
	often(t, faults, 100, kinds(3)...)
}

// P26.1: trees of directories, of which some lie astray, against the plain words.
func TestTrees(t *testing.T) {
	t.Parallel()
	dice, faults := dice(4), map[string]int{}
	l := api.Limits{Inodes: 99, Blocks: 99}
	for range 8000 {
		n := 2 + dice(12)
		d := api.Dump{}
		for ino := 1; ino <= n; ino++ {
			d.Inodes = append(d.Inodes, api.Inode{Ino: ino, Kind: api.KDir, Links: 1, Parent: 1 + dice(max(ino-1, 1))})
		}
		for range dice(3) {
			d.Inodes[dice(n)].Parent = 1 + dice(n)
		}
		for _, x := range d.Inodes {
			d.Inodes[x.Parent-1].Inos = append(d.Inodes[x.Parent-1].Inos, x.Ino)
		}
		d.Inodes[0].Holds = 1
		if dice(3) == 0 {
			d.Inodes[dice(n)].Kind = 1 + dice(4)
		}
		if dice(3) == 0 {
			i := dice(n)
			d.Inodes[i].Inos = lack(d.Inodes[i].Inos, dice)
		}
		for i := range d.Inodes { // in any order
			j := dice(i + 1)
			d.Inodes[i], d.Inodes[j] = d.Inodes[j], d.Inodes[i]
		}
		tally(holds(t, d, l), faults)
	}
	often(t, faults, 100, "none", "kind 7: 1", "kind 7: 2", "kind 7: 5", "kind 7: 8")
}

// P26.1 to P26.3: what is handed in is not changed, not even in the spare room of its lists, what is told is new memory, and is told again.
func TestMemory(t *testing.T) {
	spare := func(d api.Dump) api.Dump {
		d.Procs, d.Held, d.Files, d.Pipes, d.Socks, d.Inodes = append(d.Procs, api.Proc{Pid: 7}), append(d.Held, api.Held{Pid: 7}), append(d.Files, api.File{ID: 7}), append(d.Pipes, api.Pipe{ID: 7}), append(d.Socks, api.Sock{ID: 7}), append(d.Inodes, api.Inode{Ino: 7})
		return d
	}
	less := func(d api.Dump) api.Dump {
		d.Procs, d.Held, d.Files, d.Pipes, d.Socks, d.Inodes = d.Procs[:len(d.Procs)-1], d.Held[:len(d.Held)-1], d.Files[:len(d.Files)-1], d.Pipes[:len(d.Pipes)-1], d.Socks[:len(d.Socks)-1], d.Inodes[:len(d.Inodes)-1]
		return d
	}
	dice := dice(9)
	for range 3000 {
		d, l := scattered(dice)
		whole := spare(copied(d))
		was := fmt.Sprint(whole)
		d = less(whole)
		f, n := Check(d, l), Counts(d)
		told := show(f)
		for i := range f {
			f[i] = api.Fault{}
		}
		f = append(f, api.Fault{})
		if again := Check(d, l); show(again) != told || Counts(d) != n {
			t.Fatalf("%s, then %s", told, show(again))
		}
		if fmt.Sprint(whole) != was {
			t.Fatalf("%s became %v", was, whole)
		}
	}
}

// P26.3: behind scripts, as Run tells of them.
func TestRuns(t *testing.T) {
	for i := range 60 {
		dice := dice(uint64(50000 + i))
		l := limits(dice)
		p := begins(l, dice)
		var s []api.Step
		for range 150 {
			s = append(s, p.step())
			p.does(s[len(s)-1])
		}
		_, d, ok := run.Run(l, s)
		if f := Check(d, l); !ok || len(f) != 0 || len(d.Procs) == 0 {
			t.Fatal(i, ok, show(f))
		}
	}
}
