package apart

import (
	"fmt"
	"math"
	"slices"
	"sync"
	"testing"

	"purlieu/api"
)

// often tells what didn't come so often.
func often(t *testing.T, count map[string]int, n int, l ...string) {
	t.Helper()
	for _, what := range l {
		if count[what] < n {
			t.Errorf("%d times in all: %s", count[what], what)
		}
	}
}

// closing answers a group with all processes to which it can come, and all that have something open to which it can come, and so on.
func closing(d api.Dump, pids []int) []int {
	for n := -1; n < len(pids); {
		n = len(pids)
		reach := reached(d, pids)
		more := func(pid int) {
			if !slices.Contains(pids, pid) {
				pids = append(slices.Clone(pids), pid)
			}
		}
		for _, o := range reach {
			if o.Kind == api.KProc {
				more(o.ID)
			}
		}
		for _, x := range d.Held {
			if slices.Contains(reach, of(d, x.Slot.File)) {
				more(x.Pid)
			}
		}
	}
	return pids
}

// picks answers a group: mostly one that may well be sealed.
func (p *player) picks() (pids []int) {
	for range 1 + p.dice(2)*p.dice(2) {
		pids = append(pids, p.now.Procs[p.dice(len(p.now.Procs))].Pid)
	}
	for range 5 {
		if pid := p.now.Procs[p.dice(len(p.now.Procs))].Pid; p.confined(pid) {
			pids = []int{pid}
		}
	}
	switch p.dice(8) {
	case 0:
		return pids
	case 1:
		return append(pids, p.some(0, 1, 2, 3, p.now.Next[0], -1, math.MinInt, math.MaxInt))
	case 2:
		return append(closing(p.now, pids), p.who(), pids[0])
	case 3:
		return closing(p.now, pids)[1:]
	}
	return closing(p.now, pids)
}

// counts counts what groups there are, and what they have.
func (x seen) counts(d api.Dump, pids []int, count map[string]int) {
	if x.why != "" {
		count[x.why]++
		return
	}
	kinds, of := map[int]int{}, map[int]int{}
	for _, o := range x.reach {
		kinds[o.Kind]++
	}
	for _, f := range x.part.Files {
		of[f.ID] = f.Obj
	}
	for _, y := range x.part.Held {
		delete(of, y.Slot.File)
	}
	for kind, n := range kinds {
		count[fmt.Sprint("sealed with ", min(n, 3), " of ", kind)]++
	}
	if len(of) > 0 {
		count["open files that only what is passed names"]++
	}
	if len(x.part.Parks) > 0 {
		count["calls that wait"]++
	}
	if len(x.part.Parks) < len(d.Parks) {
		count["others' calls that wait"]++
	}
	if slices.ContainsFunc(x.part.Procs, func(y api.Proc) bool { return !slices.Contains(x.reach, api.Obj{Kind: 1, ID: y.Cwd}) }) {
		count["one only in a directory"]++
	}
	if slices.ContainsFunc(d.Procs, func(y api.Proc) bool {
		return !slices.Contains(pids, y.Pid) && slices.Contains(x.reach, api.Obj{Kind: 1, ID: y.Cwd})
	}) {
		count["another one in a directory"]++
	}
}

// script holds what is told behind each step of a script, and with some things turned, against the plain words.
func script(t *testing.T, seed int) map[string]int {
	dice, count, name := dice(uint64(seed)), map[string]int{}, fmt.Sprint("seed ", seed)
	p := begins(limits(dice), dice)
	p.opens()
	for range 150 {
		was := p.now
		s := p.step()
		p.does(s)
		pids := p.picks()
		x := told(t, name, p.now, pids)
		x.counts(p.now, pids, count)
		if why := alike(t, name, p.now, p.now, pids, x, x); why != "" && x.why == "" {
			t.Fatal(pids, p.now, why)
		}
		before := sees(was, pids)
		why := alike(t, name, was, p.now, pids, before, x)
		count["from step to step "+why]++
		if why == "" && fmt.Sprint(was) != fmt.Sprint(p.now) {
			count["alike, but not the same"]++
		}
		if dice(4) == 0 {
			turned := copied(p.now)
			for range 1 + dice(2) {
				twist(&turned, dice)
			}
			y := told(t, name, turned, pids)
			why := alike(t, name, p.now, turned, pids, x, y)
			count["turned "+why]++
		}
	}
	return count
}

// P29.1 to P29.4: behind every step of scripts of every sort, and with some things turned, what groups come to, whether they are sealed, what is theirs, and whether all is alike for them are as the plain words have it.
func TestScripts(t *testing.T) {
	var both sync.Mutex
	count := map[string]int{}
	t.Run("scripts", func(t *testing.T) {
		for i := range 8 {
			t.Run("", func(t *testing.T) {
				t.Parallel()
				for j := range 60 {
					c := script(t, i*1000+j)
					both.Lock()
					for what, n := range c {
						count[what] += n
					}
					both.Unlock()
				}
			})
		}
	})
	often(t, count, 10, "it waits elsewhere")
	often(t, count, 50, append(everything(), "alike, but not the same")...)
	often(t, count, 1000, "from step to step ", "from step to step parts", "from step to step sealed in neither", "turned ", "turned parts", "turned rooms", "turned sealed in neither", "others' calls that wait")
	often(t, count, 20, "from step to step rooms", "from step to step rests", "from step to step sealed in one", "turned rests", "turned sealed in one")
}

// everything are things that come of groups: why they are not sealed, and what those that are have.
func everything() (l []string) {
	for _, kind := range []int{api.KFile, api.KPipe, api.KSock, api.KProc} {
		l = append(l, fmt.Sprint("another one's descriptor of ", kind))
		for n := range 3 {
			l = append(l, fmt.Sprint("sealed with ", n+1, " of ", kind))
		}
	}
	return append(l, "another process is come to", "nobody", "one ended", "one is not there", "one is not in capability mode", "calls that wait", "one only in a directory", "another one in a directory", "open files that only what is passed names")
}
