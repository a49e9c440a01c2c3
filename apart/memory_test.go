package apart

import (
	"fmt"
	"reflect"
	"slices"
	"testing"

	"purlieu/api"
)

// span is the memory of a list, its spare room included.
type span struct{ from, to uintptr }

// spans answers the memory of all lists in something, whatever it is, and writes down what is in them, spare room included.
func spans(v reflect.Value) (l []span, text string) {
	switch v.Kind() {
	case reflect.Slice:
		if n := uintptr(v.Cap()) * v.Type().Elem().Size(); n > 0 {
			l = append(l, span{v.Pointer(), v.Pointer() + n})
		}
		text = fmt.Sprint(v.Len())
		v = v.Slice(0, v.Cap())
		for i := range v.Len() {
			m, more := spans(v.Index(i))
			l, text = append(l, m...), text+" "+more
		}
		return l, text
	case reflect.Struct:
		for i := range v.NumField() {
			m, more := spans(v.Field(i))
			l, text = append(l, m...), text+" "+more
		}
		return l, text
	}
	return nil, fmt.Sprint(v)
}

// apartFrom tells whether no two of all these lists share memory.
func apartFrom(l []span) bool {
	slices.SortFunc(l, func(a, b span) int {
		if a.from < b.from {
			return -1
		}
		return 1
	})
	for i := range len(l) - 1 {
		if l[i].to > l[i+1].from {
			return false
		}
	}
	return true
}

// spare answers a list with one more behind its end, which is in its spare room.
func spare[T any](l []T, x T) []T { return append(slices.Clone(l), x)[:len(l)] }

// roomy answers a dump whose lists have spare room with something in it.
func roomy(d api.Dump) api.Dump {
	d = copied(d)
	d.Procs, d.Held, d.Parks, d.Files = spare(d.Procs, api.Proc{Pid: 2, Cwd: 3}), spare(d.Held, api.Held{Pid: 1}), spare(d.Parks, api.Park{Pid: 2}), spare(d.Files, api.File{ID: 1})
	d.Pipes, d.Socks, d.Inodes = spare(d.Pipes, api.Pipe{ID: 1}), spare(d.Socks, api.Sock{ID: 1}), spare(d.Inodes, api.Inode{Ino: 1})
	for i := range d.Held {
		x := &d.Held[i].Slot
		x.Ioctls.L = spare(x.Ioctls.L, 9)
	}
	for i := range d.Parks {
		x := &d.Parks[i].Req
		x.L = spare(x.L, 9)
	}
	for i, x := range d.Socks {
		d.Socks[i].Waits, d.Socks[i].Parts = spare(x.Waits, 9), spare(x.Parts, part(9))
		for j, y := range x.Parts {
			d.Socks[i].Parts[j] = api.Part{B: spare(y.B, 'z'), L: spare(y.L, api.Passed{File: 1})}
			for k, z := range y.L {
				d.Socks[i].Parts[j].L[k].Ioctls.L = spare(z.Ioctls.L, 9)
			}
		}
	}
	for i, x := range d.Inodes {
		d.Inodes[i].Names, d.Inodes[i].Inos = spare(x.Names, "z"), spare(x.Inos, 9)
	}
	return d
}

// answers are all answers of one group.
type answers struct {
	Reach []api.Obj
	Part  api.Dump
	Other api.Dump
	Said  string
}

// asked answers all answers of one group in two dumps.
func asked(a, b api.Dump, pids []int) answers {
	return answers{Reach(a, pids), Part(a, pids), Part(b, pids), fmt.Sprint(Sealed(a, pids), Room(a), Alike(a, b, pids), Alike(a, a, pids))}
}

// P29.1 to P29.4: what is handed in is not changed, not even in the spare room of its lists; what is told is new memory down to the lists within, and is told again.
func TestMemory(t *testing.T) {
	t.Parallel()
	dice, count := dice(9), map[string]int{}
	for i := range 1200 {
		d, pids := scene(), ours()
		if i%3 == 0 {
			d, pids = scattered(dice), []int{dice(5), dice(5), dice(5)}
		}
		a, b := roomy(d), copied(d)
		for range dice(3) {
			twist(&b, dice)
		}
		b, pids = roomy(b), spare(pids, 1)
		in := []any{a, b, pids}
		handed, text := spans(reflect.ValueOf([]api.Dump{a, b}))
		_, number := spans(reflect.ValueOf(pids))
		one, two := asked(a, b, pids), asked(a, b, pids)
		first, said := spans(reflect.ValueOf(one))
		second, again := spans(reflect.ValueOf(two))
		if !apartFrom(slices.Concat(handed, first, second)) {
			t.Fatal("lists share memory", in)
		}
		if said != again {
			t.Fatal("something else is told the second time", in, one, two)
		}
		_, after := spans(reflect.ValueOf([]api.Dump{a, b}))
		if _, still := spans(reflect.ValueOf(pids)); after != text || still != number {
			t.Fatal("what was handed in was changed", in)
		}
		count[one.Said[:4]]++
		count["lists"] += len(first)
	}
	often(t, count, 200, "true", "fals")
	often(t, count, 20000, "lists")
}

// P29.1 to P29.3: long chains and wide directories are gone to their ends.
func TestFar(t *testing.T) {
	t.Parallel()
	const n = 40000
	d := api.Dump{Procs: []api.Proc{{Pid: 1, Lives: true, Cap: true}, {Pid: 2}}, Held: append(held(1, 1, 2), held(2, 3, 3, 3)...), Files: files(api.KDir, 1, api.KSock, 1, api.KPipe, 1)}
	for i := 1; i <= n; i++ {
		d.Inodes = append(d.Inodes, lies(i, i+1, 1))
		d.Socks = append(d.Socks, api.Sock{ID: i, Peer: i%n + 1, Waits: []int{1}})
		d.Held = append(d.Held, held(2, 3)...)
	}
	if got := Reach(d, []int{1, 1}); len(got) != n+1+n+1 || got[n] != (api.Obj{Kind: api.KFile, ID: n + 1}) || got[n+1] != (api.Obj{Kind: api.KSock, ID: 1}) {
		t.Error(len(got))
	}
	if p := Part(d, []int{1}); len(p.Inodes) != n || len(p.Socks) != n || len(p.Held) != 2 {
		t.Error(len(p.Inodes), len(p.Socks), len(p.Held))
	}
	if !Sealed(d, []int{1}) || !Alike(d, d, []int{1}) || Sealed(d, []int{2}) {
		t.Error("sealed")
	}
	d.Held[n].Slot.File = 2 // the other one's
	if Sealed(d, []int{1}) || Alike(d, d, []int{1}) {
		t.Error("shared")
	}
	many := make([]int, n)
	all := api.Dump{}
	for i := range many {
		if many[i] = i % 300; many[i] == i {
			all.Procs = append(all.Procs, api.Proc{Pid: i, Lives: true, Cap: true})
		}
	}
	if got := Reach(api.Dump{}, many); len(got) != 300 {
		t.Error(len(got))
	}
	if p := Part(all, many); len(p.Procs) != 300 || !Sealed(all, many) || !Sealed(all, many[:299]) {
		t.Error(len(p.Procs))
	}
	if all.Procs[299].Lives = false; Sealed(all, many) || !Sealed(all, many[:299]) {
		t.Error("the last one ended")
	}
}
