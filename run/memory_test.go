package run

import (
	"fmt"
	"reflect"
	"slices"
	"testing"

	"purlieu/api"
)

// span is the memory of a list, its spare room included.
type span struct{ from, to uintptr }

// spans answers the memory of all lists in something, whatever it is.
func spans(v reflect.Value) (l []span) {
	switch v.Kind() {
	case reflect.Slice:
		if n := uintptr(v.Cap()) * v.Type().Elem().Size(); n > 0 {
			l = append(l, span{v.Pointer(), v.Pointer() + n})
		}
		for i := range v.Len() {
			l = append(l, spans(v.Index(i))...)
		}
	case reflect.Struct:
		for i := range v.NumField() {
			l = append(l, spans(v.Field(i))...)
		}
	}
	return l
}

// shared tells whether two of all these lists share memory.
func shared(l []span) bool {
	slices.SortFunc(l, func(a, b span) int { return int(a.from) - int(b.from) })
	for i := range len(l) - 1 {
		if l[i].to > l[i+1].from {
			return true
		}
	}
	return false
}

// P25.1, P25.2: what is handed in is neither changed nor kept, and what is told is new memory.
func TestMemory(t *testing.T) {
	count := 0
	for seed := range 300 {
		x := writes(200000+seed, 100, false, map[string]int{})
		x.s = append(x.s, api.Step{Pid: 1, Req: asks(pipe)}, api.Step{Pid: 1, Req: lists(poll, []int{0, 1})}, api.Step{Pid: 1, Req: anything})
		for i, y := range x.s { // with spare room
			x.s[i].Req.L = append(slices.Clone(y.Req.L), 7, 7)[:len(y.Req.L)]
		}
		x.s = append(x.s, api.Step{Pid: 3}, api.Step{Pid: 5})
		whole := fmt.Sprint(x.s)
		s := x.s[:len(x.s)-2]
		o, d, _ := Run(x.l, s)
		o2, d2, _ := Run(x.l, s)
		fed, _ := Feed(x.l, s, len(s)-3)
		until := Until(x.l, s, api.Idle)
		l := slices.Concat(spans(reflect.ValueOf(x.s)), spans(reflect.ValueOf(o)), spans(reflect.ValueOf(d)), spans(reflect.ValueOf(o2)), spans(reflect.ValueOf(d2)), spans(reflect.ValueOf(fed)), spans(reflect.ValueOf(until)))
		count += len(d.Parks)
		if shared(l) {
			t.Fatalf("seed %d: lists share memory", seed)
		}
		for _, y := range x.s[:len(s)] {
			if room := y.Req.L[len(y.Req.L):][:2]; room[0] != 7 || room[1] != 7 {
				t.Fatalf("seed %d: the spare room of a list was changed", seed)
			}
		}
		if fmt.Sprint(x.s) != whole {
			t.Fatalf("seed %d: the script was changed", seed)
		}
		if fmt.Sprint(o, d) != fmt.Sprint(o2, d2) {
			t.Fatalf("seed %d: something else comes of it the second time", seed)
		}
	}
	if count < 100 {
		t.Errorf("%d wait", count)
	}
}

// P25.1: scripts that run beside one another know nothing of one another.
func TestBesideOneAnother(t *testing.T) {
	for seed := range 40 {
		t.Run("", func(t *testing.T) {
			t.Parallel()
			x := writes(300000+seed%5, 200, false, map[string]int{})
			for range 5 {
				matches(t, x.l, x.s, x.want, x.all[0])
			}
		})
	}
}
