package confine

import (
	"fmt"
	"math"
	"reflect"
	"slices"
	"sync"
	"testing"

	"purlieu/api"
	"purlieu/reqs"
)

// moment is a step, all there was and is, and what came of it.
type moment struct {
	was, now api.Dump
	s        api.Step
	o        api.Out
}

// holds holds what is told of a moment against the plain words, from this process on, and answers it.
func (m moment) holds(t *testing.T, pid int) (effects, come, outside []api.Obj) {
	t.Helper()
	effects, come, outside = Effects(m.was, m.now), Authority(m.was, pid), Outside(m.was, m.now, pid)
	other, far := changed(m.was, m.now), reached(m.was, pid)
	if !slices.Equal(effects, other) {
		t.Fatalf("%v:\n%v\nnot\n%v", m, effects, other)
	}
	if !slices.Equal(come, far) {
		t.Fatalf("%v from %d:\n%v\nnot\n%v", m, pid, come, far)
	}
	if want := beyond(other, far); !slices.Equal(outside, want) {
		t.Fatalf("%v from %d:\n%v\nnot\n%v", m, pid, outside, want)
	}
	return effects, come, outside
}

// caller answers the process of a step, as it was.
func (m moment) caller() api.Proc {
	for _, x := range m.was.Procs {
		if x.Pid == m.s.Pid {
			return x
		}
	}
	return api.Proc{}
}

// asked answers what the step came to ask for.
func (m moment) asked() api.Req {
	for _, x := range m.was.Parks {
		if x.Pid == m.s.Pid {
			return x.Req
		}
	}
	return m.s.Req
}

// refused holds a step in capability mode that names what all share to P28.6, and tells whether it is one.
func (m moment) refused(t *testing.T) bool {
	t.Helper()
	r := m.asked()
	if x := m.caller(); !x.Lives || !x.Cap || !shared(r) || reqs.Check(r) != api.OK {
		return false
	}
	if m.o.Mark != api.Done || m.o.Res.Err != api.ECAPMODE || !reflect.DeepEqual(m.was, m.now) {
		t.Fatal(m)
	}
	return true
}

// more holds what is come to by one descriptor more to P28.7, and answers how much more it is.
func (m moment) more(t *testing.T, pid int, come []api.Obj, dice func(n int) int) int {
	t.Helper()
	id := 1 + dice(m.was.Next[1]+1)
	if len(m.was.Files) > 0 && dice(8) > 0 {
		id = m.was.Files[dice(len(m.was.Files))].ID
	}
	d := m.was
	d.Held = append(slices.Clone(d.Held), api.Held{Pid: pid, Fd: dice(9) - 1, Slot: api.Slot{File: id, Rights: api.Rights(dice(2))}})
	most := Authority(d, pid)
	if !within(come, most) || !slices.Equal(most, reached(d, pid)) {
		t.Fatalf("%v from %d with %d:\n%v\nbut\n%v", m.was, pid, id, come, most)
	}
	return len(most) - len(come)
}

// counts counts what changed how, by what calls, in capability mode and not, and how far was come.
func (m moment) counts(effects, come, outside []api.Obj, count map[string]int) {
	mode := ""
	if m.caller().Cap {
		mode = " in capability mode"
	}
	left := map[api.Obj]string{}
	if len(effects) > 0 {
		left = texts(m.now)
	}
	for _, o := range effects {
		how := " changed"
		if _, ok := left[o]; !ok {
			how = " gone"
		}
		count[fmt.Sprint(o.Kind, how, mode)]++
		if o != (api.Obj{Kind: api.KProc, ID: m.s.Pid}) {
			count[fmt.Sprint("by ", m.asked().No, mode)]++
		}
	}
	for _, o := range outside {
		count[fmt.Sprint(o.Kind, " outside", mode)]++
	}
	kinds := map[int]int{}
	for _, o := range come {
		kinds[o.Kind]++
	}
	for kind, n := range kinds {
		if n > 1 {
			count[fmt.Sprint("several ", kind, mode)]++
		}
	}
	if kinds[api.KFile] > 0 && kinds[api.KPipe] > 0 && kinds[api.KSock] > 0 && kinds[api.KProc] > 1 {
		count["all kinds"+mode]++
	}
	if m.o.Mark == api.Woken && len(effects) > 0 {
		count["woken"+mode]++
	}
	if m.o.Res.Err != api.OK {
		count["errors"+mode]++
		if len(effects) > 0 {
			count["errors with effects"]++
		}
	}
}

// common are things that come in scripts: what changed and went in both modes, by which calls.
func common() (l []string) {
	for _, mode := range []string{"", " in capability mode"} {
		for _, kind := range []int{api.KFile, api.KPipe, api.KSock, api.KProc} {
			l = append(l, fmt.Sprint(kind, " changed", mode), fmt.Sprint(kind, " gone", mode), fmt.Sprint("several ", kind, mode))
		}
		for _, no := range []int{exit, read, write, shut, dup2, ftruncate, openat, mkdirat, unlinkat, renameat, linkat, symlinkat, bindat, listen, connectat, accept, shutdown, send, recv, pdkill, pdwait} {
			l = append(l, fmt.Sprint("by ", no, mode))
		}
		l = append(l, "all kinds"+mode, "woken"+mode, "errors"+mode)
	}
	return append(l, "1 outside", "6 outside", "7 outside", "by 7", "by 9", "by 12", "by 16", "by 24", "refused", "more")
}

// often tells what didn't come so often.
func often(t *testing.T, count map[string]int, n int, l ...string) {
	t.Helper()
	for _, what := range l {
		if count[what] < n {
			t.Errorf("%d times in all: %s", count[what], what)
		}
	}
}

// tally is what a script came by.
type tally struct{ seen, turned map[string]int }

// script holds each step of a script, and what is told of it with some things turned, against the plain words and the chapter's promises.
func script(t *testing.T, seed int) tally {
	dice := dice(uint64(seed))
	p := begins(limits(dice), dice)
	begin := opening(dice)
	c := tally{map[string]int{}, map[string]int{}}
	for i := range 250 {
		m := moment{was: p.now}
		if m.s = p.step(); i < len(begin) {
			m.s = begin[i]
		}
		m.o = p.does(m.s)
		m.now = p.now
		effects, come, outside := m.holds(t, m.s.Pid)
		m.counts(effects, come, outside, c.seen)
		if x := m.caller(); len(outside) > 0 && (x.Cap || !x.Lives) {
			t.Fatalf("%d, %d: %v: outside %v", seed, i, m, outside)
		}
		if m.refused(t) {
			c.seen["refused"]++
		}
		if m.more(t, m.s.Pid, come, dice) > 0 {
			c.seen["more"]++
		}
		if i%4 == 0 {
			x := m.twisted(dice)
			x.tells(t, c.turned, dice)
			x = x.twisted(dice)
			x.tells(t, c.turned, dice)
		}
	}
	return c
}

// tells holds a moment with things turned, from any process, and counts it.
func (m moment) tells(t *testing.T, count map[string]int, dice func(n int) int) {
	pid := m.s.Pid
	if dice(3) == 0 {
		pid = []int{0, -1, 1 + dice(6), math.MinInt, math.MaxInt}[dice(5)]
	}
	effects, come, outside := m.holds(t, pid)
	m.counts(effects, come, outside, count)
	m.more(t, pid, come, dice)
}

// P28.1 to P28.7: in every step of scripts of every sort what changed, what the process can come to, and what of it is outside are as the plain words have it, of what there was and is with some things turned, too; and nothing is outside of what a process in capability mode can come to.
func TestScripts(t *testing.T) {
	var both sync.Mutex
	count := tally{map[string]int{}, map[string]int{}}
	t.Run("scripts", func(t *testing.T) {
		for i := range 8 {
			t.Run("", func(t *testing.T) {
				t.Parallel()
				for j := range 110 {
					c := script(t, i*1000+j)
					both.Lock()
					for what, n := range c.seen {
						count.seen[what] += n
					}
					for what, n := range c.turned {
						count.turned[what] += n
					}
					both.Unlock()
				}
			})
		}
	})
	often(t, count.seen, 10, common()...)
	often(t, count.turned, 100, "1 changed", "1 gone", "5 changed", "5 gone", "6 changed", "6 gone", "7 changed", "7 gone", "several 1", "several 5", "several 6", "several 7", "1 outside", "5 outside", "6 outside", "7 outside")
	if count.seen["errors with effects"] > 0 {
		t.Error("errors with effects")
	}
}
