package queue

import (
	"fmt"
	"math"
	"slices"
	"strings"
	"testing"

	"purlieu/api"
)

const most = api.MaxBuffer

// pass answers a descriptor that is passed, in which each field tells its number.
func pass(i int) api.Passed {
	p := api.Passed{File: i, Rights: api.Rights(i + 1), Fcntls: 1000 + i}
	if i%3 == 0 {
		p.Ioctls.All = true
	} else {
		p.Ioctls.L = []int{i, i + 7}
	}
	return p
}

// passes answers n of them, from the one of that number on.
func passes(from, n int) []api.Passed {
	var l []api.Passed
	for i := range n {
		l = append(l, pass(from+i))
	}
	return l
}

// some answers the ones of these numbers.
func some(numbers ...int) []api.Passed {
	var l []api.Passed
	for _, i := range numbers {
		l = append(l, pass(i))
	}
	return l
}

// tell answers the text of what is passed; nil and empty lists have the same.
func tell(l []api.Passed) string {
	var s strings.Builder
	for _, p := range l {
		fmt.Fprintf(&s, "<%d %d %v %v %d>", p.File, p.Rights, p.Ioctls.All, p.Ioctls.L, p.Fcntls)
	}
	return s.String()
}

// part answers a part with these bytes, and the descriptors of these numbers.
func part(b string, numbers ...int) api.Part { return api.Part{B: []byte(b), L: some(numbers...)} }

// tellParts answers the text of parts.
func tellParts(l []api.Part) string {
	var s strings.Builder
	for _, p := range l {
		fmt.Fprintf(&s, "%q%s;", p.B, tell(p.L))
	}
	return s.String()
}

// is says what waits in q: these parts, of so many bytes that it has room for.
func is(t *testing.T, q *Queue, what string, bound int, want ...api.Part) {
	t.Helper()
	n, next := 0, 0
	for _, p := range want {
		n += len(p.B)
	}
	if len(want) > 0 {
		next = len(want[0].L)
	}
	if q.Len() != n {
		t.Errorf("%s: Len %d, not %d", what, q.Len(), n)
	}
	if q.Room() != bound-n {
		t.Errorf("%s: Room %d, not %d", what, q.Room(), bound-n)
	}
	if q.Next() != next {
		t.Errorf("%s: Next %d, not %d", what, q.Next(), next)
	}
	if got := tellParts(q.Dump()); got != tellParts(want) {
		t.Errorf("%s: Dump %s, not %s", what, got, tellParts(want))
	}
}

// puts makes a Put that must tell n and e.
func puts(t *testing.T, q *Queue, b string, l []api.Passed, n int, e api.Errno) {
	t.Helper()
	if gotN, gotE := q.Put([]byte(b), l); gotN != n || gotE != e {
		t.Errorf("Put(%q, %s): %d and %d, not %d and %d", b, tell(l), gotN, gotE, n, e)
	}
}

// takes makes a Take that must tell these.
func takes(t *testing.T, q *Queue, n, first int, b string, told, others []api.Passed) {
	t.Helper()
	gotB, gotT, gotO := q.Take(n, first)
	if string(gotB) != b {
		t.Errorf("Take(%d, %d): bytes %q, not %q", n, first, gotB, b)
	}
	if tell(gotT) != tell(told) {
		t.Errorf("Take(%d, %d): told %s, not %s", n, first, tell(gotT), tell(told))
	}
	if tell(gotO) != tell(others) {
		t.Errorf("Take(%d, %d): others %s, not %s", n, first, tell(gotO), tell(others))
	}
}

// made answers a queue of that bound in which these parts wait; the first one alone may have nothing passed.
func made(t *testing.T, bound int, parts ...api.Part) *Queue {
	t.Helper()
	q := New(bound)
	if q == nil {
		t.Fatalf("New(%d): nil", bound)
	}
	for _, p := range parts {
		puts(t, q, string(p.B), p.L, len(p.B), api.OK)
	}
	is(t, q, "made", bound, parts...)
	return q
}

// P10.1: bounds, from the least to the greatest, each with as much room as it says.
func TestNew(t *testing.T) {
	if most != 4096 || api.MaxParts != 16 || api.MaxPassed != 4 {
		t.Error("limits", most, api.MaxParts, api.MaxPassed)
	}
	b := strings.Repeat("x", most+1)
	for bound := 1; bound <= most; bound++ {
		q := New(bound)
		if q == nil {
			t.Fatalf("New(%d): nil", bound)
		}
		if q.Len() != 0 || q.Room() != bound || q.Next() != 0 || len(q.Dump()) != 0 || len(q.Clear()) != 0 {
			t.Errorf("New(%d): Len %d, Room %d", bound, q.Len(), q.Room())
		}
		if n, e := q.Put([]byte(b), nil); n != bound || e != api.OK || q.Len() != bound || q.Room() != 0 {
			t.Errorf("New(%d): Put %d and %d, Len %d, Room %d", bound, n, e, q.Len(), q.Room())
		}
	}
}

// P10.1: bounds that are none.
func TestNewWrong(t *testing.T) {
	for _, bound := range []int{0, -1, -2, -most, most + 1, most + 2, 2 * most, math.MaxInt32, math.MinInt32, math.MaxInt, math.MinInt} {
		if New(bound) != nil {
			t.Errorf("New(%d): not nil", bound)
		}
	}
}

// P10.1: two queues know nothing of one another.
func TestTwo(t *testing.T) {
	a, b := made(t, 5, part("abc", 1)), made(t, 5, part("x"), part("y", 2))
	takes(t, a, 1, 1, "a", some(1), nil)
	is(t, a, "the one, taken from", 5, part("bc"))
	is(t, b, "the other", 5, part("x"), part("y", 2))
	b.Clear()
	is(t, a, "the one", 5, part("bc"))
	is(t, b, "the other, cleared", 5)
}

// P10.1 to P10.4: of a nil queue 0, EINVAL, none, in every call.
func TestNil(t *testing.T) {
	var q *Queue
	for range 2 {
		is(t, q, "nil", 0)
		for _, b := range []string{"", "a", strings.Repeat("x", most+1)} {
			for n := range 6 {
				puts(t, q, b, passes(1, n), 0, api.EINVAL)
			}
		}
		for _, n := range []int{math.MinInt, -1, 0, 1, most, math.MaxInt} {
			for _, first := range []int{math.MinInt, -1, 0, 1, 4, math.MaxInt} {
				takes(t, q, n, first, "", nil, nil)
			}
		}
		if l := q.Clear(); len(l) != 0 {
			t.Error("Clear", l)
		}
	}
}

// The zero value is open, but nothing panics.
func TestZeroValue(t *testing.T) {
	var q Queue
	q.Len()
	q.Room()
	q.Next()
	q.Put([]byte("a"), passes(1, 2))
	q.Put([]byte("a"), nil)
	q.Take(1, 1)
	q.Dump()
	q.Clear()
}

// The chapter's example.
func TestExample(t *testing.T) {
	q := New(9)
	puts(t, q, "ab", some(1), 2, api.OK)
	puts(t, q, "cd", nil, 2, api.OK)
	is(t, q, "put", 9, part("abcd", 1))
	takes(t, q, 3, 1, "abc", some(1), nil)
	is(t, q, "taken", 9, part("d"))
}

// P10.2: Put begins a part, or its bytes are the last part's; with less, as much and more than there is room for; into a full queue.
func TestPut(t *testing.T) {
	had := func(l ...api.Part) []api.Part { return l }
	four := []int{1, 2, 3, 4}
	for _, x := range []struct {
		had  []api.Part
		b    string
		l    []int
		n    int
		e    api.Errno
		then []api.Part
	}{
		{nil, "a", nil, 1, api.OK, had(part("a"))},
		{nil, "a", four[:1], 1, api.OK, had(part("a", 1))},
		{nil, "abcde", four, 5, api.OK, had(part("abcde", 1, 2, 3, 4))},
		{nil, "abcdefg", nil, 5, api.OK, had(part("abcde"))},
		{nil, "abcdefg", four, 5, api.OK, had(part("abcde", 1, 2, 3, 4))},
		{had(part("xy")), "a", nil, 1, api.OK, had(part("xya"))},
		{had(part("xy")), "abcd", nil, 3, api.OK, had(part("xyabc"))},
		{had(part("xy")), "a", four[:1], 1, api.OK, had(part("xy"), part("a", 1))},
		{had(part("xy")), "abc", four, 3, api.OK, had(part("xy"), part("abc", 1, 2, 3, 4))},
		{had(part("xy")), "abcd", four, 3, api.OK, had(part("xy"), part("abc", 1, 2, 3, 4))},
		{had(part("xy", 8, 9)), "a", nil, 1, api.OK, had(part("xya", 8, 9))},
		{had(part("xy", 8, 9)), "abcd", nil, 3, api.OK, had(part("xyabc", 8, 9))},
		{had(part("xy", 8, 9)), "a", four[:2], 1, api.OK, had(part("xy", 8, 9), part("a", 1, 2))},
		{had(part("x"), part("y", 9)), "a", nil, 1, api.OK, had(part("x"), part("ya", 9))},
		{had(part("x"), part("y", 9)), "abcd", four[:3], 3, api.OK, had(part("x"), part("y", 9), part("abc", 1, 2, 3))},
		{had(part("x", 7), part("y", 8), part("z", 9)), "abc", nil, 2, api.OK, had(part("x", 7), part("y", 8), part("zab", 9))},
		{had(part("xyzuv")), "a", nil, 0, api.EAGAIN, had(part("xyzuv"))},
		{had(part("xyzuv")), "a", four, 0, api.EAGAIN, had(part("xyzuv"))},
		{had(part("xyzuv", 9)), "abcdefgh", nil, 0, api.EAGAIN, had(part("xyzuv", 9))},
		{had(part("xyzuv", 9)), "abcdefgh", four, 0, api.EAGAIN, had(part("xyzuv", 9))},
		{had(part("xyz"), part("uv", 9)), "a", four[:1], 0, api.EAGAIN, had(part("xyz"), part("uv", 9))},
	} {
		q := made(t, 5, x.had...)
		puts(t, q, x.b, some(x.l...), x.n, x.e)
		is(t, q, "then", 5, x.then...)
	}
}

// P10.2: no bytes, or more than 4 descriptors: EINVAL, ahead of what there is no room for, and nothing is changed.
func TestPutWrong(t *testing.T) {
	full := make([]api.Part, 0, api.MaxParts)
	for i := range api.MaxParts {
		full = append(full, part("x", i))
	}
	for _, had := range [][]api.Part{nil, {part("x")}, {part("x", 1)}, {part("x"), part("y", 1, 2)}, {part(strings.Repeat("x", 20), 3)}, full} {
		q := made(t, 20, had...)
		for n := range 7 {
			for _, b := range [][]byte{nil, {}, []byte("abc")[:0]} {
				if got, e := q.Put(b, passes(1, n)); got != 0 || e != api.EINVAL {
					t.Errorf("no bytes, with %d: %d and %d", n, got, e)
				}
			}
		}
		for _, n := range []int{5, 6, 17, 300} {
			puts(t, q, "a", passes(1, n), 0, api.EINVAL)
			puts(t, q, strings.Repeat("a", most+1), passes(1, n), 0, api.EINVAL)
		}
		is(t, q, "nothing is changed", 20, had...)
	}
}

// P10.2: nil and empty lists of descriptors are alike: no part is begun for them.
func TestPutNonePassed(t *testing.T) {
	for _, l := range [][]api.Passed{nil, {}, passes(1, 4)[:0]} {
		q := New(9)
		puts(t, q, "ab", l, 2, api.OK)
		is(t, q, "the first", 9, part("ab"))
		puts(t, q, "cd", l, 2, api.OK)
		is(t, q, "the last part's", 9, part("abcd"))
		puts(t, q, "e", some(1), 1, api.OK)
		puts(t, q, "f", l, 1, api.OK)
		is(t, q, "behind a descriptor", 9, part("abcd"), part("ef", 1))
	}
}

// P10.2: 16 parts, and one more: just bytes of the last part have room then; with the first one gone, there may be one more.
func TestParts(t *testing.T) {
	for first := range 2 { // with how many the first part is passed
		q := New(40)
		var want []api.Part
		for i := range api.MaxParts {
			numbers := []int{i}
			if i == 0 {
				numbers = numbers[:first]
			}
			want = append(want, part("ab", numbers...))
			puts(t, q, "ab", some(numbers...), 2, api.OK)
		}
		is(t, q, "16 parts", 40, want...)
		for n := 1; n <= 4; n++ {
			puts(t, q, "x", passes(50, n), 0, api.EAGAIN)
		}
		puts(t, q, "x", passes(50, 5), 0, api.EINVAL)
		puts(t, q, "", some(50), 0, api.EINVAL)
		is(t, q, "still", 40, want...)
		puts(t, q, "xyz", nil, 3, api.OK)
		want[15] = part("abxyz", 15)
		is(t, q, "the last part's", 40, want...)

		takes(t, q, 1, 4, "a", want[0].L, nil)
		want[0] = part("b")
		is(t, q, "the first one begun", 40, want...)
		puts(t, q, "x", some(50), 0, api.EAGAIN)
		takes(t, q, 1, 4, "b", nil, nil)
		is(t, q, "the first one gone", 40, want[1:]...)
		puts(t, q, "x", some(50, 51), 1, api.OK)
		want = append(want[1:], part("x", 50, 51))
		is(t, q, "16 parts again", 40, want...)
		puts(t, q, "y", some(52), 0, api.EAGAIN)
		puts(t, q, "yyyyyyyyy", nil, 6, api.OK)
		want[15] = part("xyyyyyy", 50, 51)
		is(t, q, "full", 40, want...)
		puts(t, q, "z", nil, 0, api.EAGAIN)
		is(t, q, "full still", 40, want...)
	}
}

// P10.3: Take of less than the first part, of just it, of more, up to a part with which something is passed.
func TestTakeBytes(t *testing.T) {
	had := func(l ...api.Part) []api.Part { return l }
	for _, x := range []struct {
		had  []api.Part
		n    int
		b    string
		l    []int
		then []api.Part
	}{
		{had(part("abc")), 1, "a", nil, had(part("bc"))},
		{had(part("abc")), 2, "ab", nil, had(part("c"))},
		{had(part("abc")), 3, "abc", nil, nil},
		{had(part("abc")), 4, "abc", nil, nil},
		{had(part("abc")), math.MaxInt, "abc", nil, nil},
		{had(part("abc", 1)), 1, "a", []int{1}, had(part("bc"))},
		{had(part("abc", 1)), 3, "abc", []int{1}, nil},
		{had(part("abc", 1)), 9, "abc", []int{1}, nil},
		{had(part("abc"), part("de", 1)), 2, "ab", nil, had(part("c"), part("de", 1))},
		{had(part("abc"), part("de", 1)), 3, "abc", nil, had(part("de", 1))},
		{had(part("abc"), part("de", 1)), 4, "abc", nil, had(part("de", 1))},
		{had(part("abc"), part("de", 1)), math.MaxInt, "abc", nil, had(part("de", 1))},
		{had(part("abc", 1, 2), part("de", 3), part("f", 4)), 2, "ab", []int{1, 2}, had(part("c"), part("de", 3), part("f", 4))},
		{had(part("abc", 1, 2), part("de", 3), part("f", 4)), 3, "abc", []int{1, 2}, had(part("de", 3), part("f", 4))},
		{had(part("abc", 1, 2), part("de", 3), part("f", 4)), 5, "abc", []int{1, 2}, had(part("de", 3), part("f", 4))},
		{had(part("abc", 1, 2), part("de", 3), part("f", 4)), math.MaxInt, "abc", []int{1, 2}, had(part("de", 3), part("f", 4))},
		{had(part("\x00\xff"), part("\x00", 0)), 9, "\x00\xff", nil, had(part("\x00", 0))},
	} {
		q := made(t, 10, x.had...)
		takes(t, q, x.n, 4, x.b, some(x.l...), nil)
		is(t, q, "then", 10, x.then...)
	}
}

// P10.3: of what lies behind the first part all parts with which nothing is passed are taken, too, up to one with which something is. (No row of calls makes such parts.)
func TestTakeOverParts(t *testing.T) {
	for _, x := range []struct {
		n    int
		b    string
		then []api.Part
	}{
		{2, "ab", []api.Part{part("cd"), part("e"), part("fg", 3), part("h")}},
		{3, "abc", []api.Part{part("d"), part("e"), part("fg", 3), part("h")}},
		{4, "abcd", []api.Part{part("e"), part("fg", 3), part("h")}},
		{5, "abcde", []api.Part{part("fg", 3), part("h")}},
		{6, "abcde", []api.Part{part("fg", 3), part("h")}},
		{math.MaxInt, "abcde", []api.Part{part("fg", 3), part("h")}},
	} {
		q := &Queue{most: 10, parts: []api.Part{part("ab", 1, 2), part("cd"), part("e"), part("fg", 3), part("h")}}
		takes(t, q, x.n, 1, x.b, some(1), some(2))
		is(t, q, "then", 10, x.then...)
	}
}

// P10.3: most, below 0, 0, less than, as many as and more than what is passed; nothing is passed with what is left.
func TestTakePassed(t *testing.T) {
	for has := range 5 {
		for _, first := range []int{math.MinInt, -2, -1, 0, 1, 2, 3, 4, 5, 99, math.MaxInt} {
			at, after := max(0, min(first, has)), max(0, min(first, 1))
			l, behind := passes(1, has), some(9)
			q := made(t, 10, api.Part{B: []byte("abc"), L: l}, api.Part{B: []byte("de"), L: behind})
			takes(t, q, 2, first, "ab", l[:at], l[at:])
			is(t, q, "begun", 10, part("c"), part("de", 9))
			takes(t, q, 2, first, "c", nil, nil)
			is(t, q, "gone", 10, part("de", 9))
			takes(t, q, 2, first, "de", behind[:after], behind[after:])
			is(t, q, "all gone", 10)
		}
	}
}

// P10.3: Take of n below 1, and of a queue in which nothing waits: none, and nothing is changed.
func TestTakeNone(t *testing.T) {
	firsts := []int{math.MinInt, -1, 0, 1, 4, math.MaxInt}
	for _, had := range [][]api.Part{nil, {part("abc")}, {part("abc", 1, 2)}, {part("a"), part("b", 1)}} {
		q := made(t, 5, had...)
		for _, n := range []int{0, -1, -5, math.MinInt} {
			for _, first := range firsts {
				takes(t, q, n, first, "", nil, nil)
			}
		}
		is(t, q, "below 1", 5, had...)
		q.Clear()
		for _, n := range []int{0, -1, 1, 5, math.MinInt, math.MaxInt} {
			for _, first := range firsts {
				takes(t, q, n, first, "", nil, nil)
			}
		}
		is(t, q, "nothing waits", 5)
	}
}

// P10.3: none is told as nil, beside bytes and without.
func TestNoneIsNil(t *testing.T) {
	q := made(t, 9, part("ab"), part("cd", 1))
	if b, told, others := q.Take(0, 4); b != nil || told != nil || others != nil {
		t.Error("Take of 0", b, told, others)
	}
	if _, told, others := q.Take(9, 4); told != nil || others != nil {
		t.Error("nothing passed", told, others)
	}
	if _, told, others := q.Take(1, 0); told != nil || len(others) != 1 {
		t.Error("none told", told, others)
	}
	if _, told, others := q.Take(1, 9); told != nil || others != nil {
		t.Error("what is left", told, others)
	}
	puts(t, q, "x", some(1), 1, api.OK)
	if _, told, others := q.Take(1, 1); len(told) != 1 || others != nil {
		t.Error("all told", told, others)
	}
	if b, told, others := q.Take(1, 1); b != nil || told != nil || others != nil {
		t.Error("nothing waits", b, told, others)
	}
}

// P10.3: Next of the first part alone: as it comes to be the first, and as it has been begun to be taken.
func TestNext(t *testing.T) {
	q := New(20)
	next := func(want int) {
		t.Helper()
		if got := q.Next(); got != want {
			t.Errorf("Next %d, not %d", got, want)
		}
	}
	next(0)
	puts(t, q, "ab", nil, 2, api.OK)
	puts(t, q, "cd", passes(1, 4), 2, api.OK)
	next(0)
	puts(t, q, "ef", passes(5, 2), 2, api.OK)
	next(0)
	takes(t, q, 1, 0, "a", nil, nil)
	next(0)
	takes(t, q, 1, 0, "b", nil, nil)
	next(4)
	takes(t, q, 0, 4, "", nil, nil)
	next(4)
	takes(t, q, 1, 1, "c", some(1), some(2, 3, 4))
	next(0)
	takes(t, q, 1, 1, "d", nil, nil)
	next(2)
	puts(t, q, "gh", nil, 2, api.OK)
	next(2)
	takes(t, q, 3, 2, "efg", some(5, 6), nil)
	next(0)
	puts(t, q, "i", some(7), 1, api.OK)
	next(0)
	takes(t, q, 9, 0, "h", nil, nil)
	next(1)
	q.Clear()
	next(0)
}

// P10.2, P10.3: what is put behind a part that was begun to be taken is its own; behind one that is gone, a part is begun.
func TestPutBehindTake(t *testing.T) {
	q := made(t, 6, part("abc", 1))
	takes(t, q, 1, 1, "a", some(1), nil)
	puts(t, q, "d", nil, 1, api.OK)
	is(t, q, "begun", 6, part("bcd"))
	puts(t, q, "e", some(2), 1, api.OK)
	is(t, q, "another", 6, part("bcd"), part("e", 2))
	puts(t, q, "fghi", nil, 2, api.OK)
	is(t, q, "full", 6, part("bcd"), part("efg", 2))
	takes(t, q, 9, 1, "bcd", nil, nil)
	takes(t, q, 9, 1, "efg", some(2), nil)
	is(t, q, "empty", 6)
	puts(t, q, "h", nil, 1, api.OK)
	is(t, q, "a part is begun", 6, part("h"))
}

// P10.4: Clear of parts with descriptors and without, of one that was begun, and what is put behind it.
func TestClear(t *testing.T) {
	for _, x := range []struct {
		had  []api.Part
		take int
		l    []int
	}{
		{nil, 0, nil},
		{[]api.Part{part("abc")}, 0, nil},
		{[]api.Part{part("abc", 1, 2, 3, 4)}, 0, []int{1, 2, 3, 4}},
		{[]api.Part{part("abc", 1, 2, 3, 4)}, 1, nil},
		{[]api.Part{part("a"), part("bcde", 3)}, 0, []int{3}},
		{[]api.Part{part("ab", 9, 8), part("c", 1), part("de", 7, 6, 5)}, 0, []int{9, 8, 1, 7, 6, 5}},
		{[]api.Part{part("ab", 9, 8), part("c", 1), part("de", 7, 6, 5)}, 1, []int{1, 7, 6, 5}},
		{[]api.Part{part("ab", 9, 8), part("c", 1), part("de", 7, 6, 5)}, 2, []int{1, 7, 6, 5}},
		{[]api.Part{part("a", 2), part("b", 2), part("c", 2)}, 0, []int{2, 2, 2}},
	} {
		q := made(t, 5, x.had...)
		q.Take(x.take, 1)
		if got := q.Clear(); tell(got) != tell(some(x.l...)) {
			t.Errorf("Clear %s, not %s", tell(got), tell(some(x.l...)))
		}
		is(t, q, "cleared", 5)
		if got := q.Clear(); len(got) != 0 {
			t.Errorf("Clear again %s", tell(got))
		}
		takes(t, q, 9, 4, "", nil, nil)
		puts(t, q, "uv", nil, 2, api.OK)
		is(t, q, "put behind", 5, part("uv"))
		puts(t, q, "wxyz", some(6), 3, api.OK)
		is(t, q, "full behind", 5, part("uv"), part("wxy", 6))
		takes(t, q, 9, 4, "uv", nil, nil)
		takes(t, q, 9, 4, "wxy", some(6), nil)
		is(t, q, "taken behind", 5)
	}
}

// P10.4: Clear of 16 parts of 4 descriptors each; then there may be 16 again.
func TestClearAll(t *testing.T) {
	q := New(16)
	for range 2 {
		for i := range api.MaxParts {
			puts(t, q, "x", passes(4*i, 4), 1, api.OK)
		}
		puts(t, q, "x", nil, 0, api.EAGAIN)
		if got := q.Clear(); tell(got) != tell(passes(0, 64)) {
			t.Errorf("Clear %s", tell(got))
		}
		is(t, q, "cleared", 16)
	}
}

// P10.4: Dump tells all parts, and changes nothing.
func TestDump(t *testing.T) {
	q := made(t, 10, part("abc", 1, 2), part("d", 3))
	for range 3 {
		if got := tellParts(q.Dump()); got != tellParts([]api.Part{part("abc", 1, 2), part("d", 3)}) {
			t.Errorf("Dump %s", got)
		}
	}
	takes(t, q, 2, 2, "ab", some(1, 2), nil)
	takes(t, q, 2, 2, "c", nil, nil)
	takes(t, q, 2, 2, "d", some(3), nil)
	is(t, q, "empty", 10)
}

// spoil changes what is passed, down to its whitelists, and all spare room.
func spoil(l []api.Passed) {
	l = l[:cap(l)]
	for i := range l {
		cmds := l[i].Ioctls.L[:cap(l[i].Ioctls.L)]
		for k := range cmds {
			cmds[k] = -1
		}
		l[i] = api.Passed{File: -1}
	}
}

// spoilBytes changes bytes, and their spare room.
func spoilBytes(b []byte) {
	b = b[:cap(b)]
	for i := range b {
		b[i] = '!'
	}
}

// spoilParts changes parts, all they have, and all spare room.
func spoilParts(l []api.Part) {
	l = l[:cap(l)]
	for i := range l {
		spoilBytes(l[i].B)
		spoil(l[i].L)
		l[i] = part("spoilt", 66)
	}
}

// Memory: what is handed in is neither changed nor kept, its spare room included.
func TestHandedIn(t *testing.T) {
	q := made(t, 9, part("x"))
	bytes, all := []byte("abcdefgh"), passes(1, 4)
	for i := range all {
		all[i].Ioctls = api.List{L: []int{i, i + 1, i + 2}[:2]}
	}
	told := tell(all)
	if n, e := q.Put(bytes[:2], all[:2]); n != 2 || e != api.OK {
		t.Error("Put", n, e)
	}
	if n, e := q.Put(bytes[2:4:6], nil); n != 2 || e != api.OK {
		t.Error("Put", n, e)
	}
	if n, e := q.Put(bytes[4:5], all[2:3:3]); n != 1 || e != api.OK {
		t.Error("Put", n, e)
	}
	if string(bytes) != "abcdefgh" || tell(all) != told || all[0].Ioctls.L[:3][2] != 2 {
		t.Errorf("changed: %q, %s", bytes, tell(all))
	}
	was := tellParts(q.Dump())
	spoilBytes(bytes)
	spoil(all)
	if got := tellParts(q.Dump()); got != was {
		t.Errorf("kept: %s, not %s", got, was)
	}
	spoilt := tell(all)
	q.Take(3, 1)
	q.Take(3, 1)
	puts(t, q, "uvw", some(5), 3, api.OK)
	puts(t, q, "uvw", nil, 3, api.OK)
	q.Clear()
	if string(bytes) != "!!!!!!!!" || tell(all) != spoilt {
		t.Errorf("changed later: %q, %s", bytes, tell(all))
	}
}

// lists answers passes of that number, whose whitelists are lists all.
func lists(from, n int) []api.Passed {
	l := passes(from, n)
	for i := range l {
		l[i].Ioctls = api.List{L: []int{from + i, 100}}
	}
	return l
}

// Memory: an answer of Dump is new: what is done to it does not reach the queue or another answer.
func TestDumpHandedOut(t *testing.T) {
	q := New(20)
	puts(t, q, "abc", lists(1, 3), 3, api.OK)
	puts(t, q, "de", lists(4, 1), 2, api.OK)
	one, two := q.Dump(), q.Dump()
	was := tellParts(two)
	spoilParts(one)
	if tellParts(two) != was || tellParts(q.Dump()) != was {
		t.Errorf("the other answer %s, the queue %s", tellParts(two), tellParts(q.Dump()))
	}
	puts(t, q, "fg", nil, 2, api.OK)
	b, told, others := q.Take(2, 2)
	if tellParts(two) != was {
		t.Errorf("changed by what came later: %s", tellParts(two))
	}
	spoilParts(two)
	if string(b) != "ab" || tell(told) != tell(lists(1, 2)) || tell(others) != tell(lists(3, 1)) {
		t.Errorf("Take: %q, %s, %s", b, tell(told), tell(others))
	}
	is(t, q, "all spoilt", 20, part("c"), api.Part{B: []byte("defg"), L: lists(4, 1)})
}

// Memory: the three lists of a Take share nothing with one another, with the queue, with other answers.
func TestTakeHandedOut(t *testing.T) {
	for first := range 6 {
		q := New(20)
		puts(t, q, "abc", lists(1, 4), 3, api.OK)
		puts(t, q, "de", lists(5, 2), 2, api.OK)
		at := min(first, 4)
		dump := q.Dump()
		b, told, others := q.Take(2, first)
		puts(t, q, "fgh", lists(7, 1), 3, api.OK)
		if string(b) != "ab" || tell(told) != tell(lists(1, at)) || tell(others) != tell(lists(1+at, 4-at)) {
			t.Errorf("%d: %q, %s, %s", first, b, tell(told), tell(others))
		}
		_ = append(told, api.Passed{File: -1})
		spoil(told)
		if tell(others) != tell(lists(1+at, 4-at)) {
			t.Errorf("%d: the others are spoilt: %s", first, tell(others))
		}
		spoil(others)
		spoilBytes(b)
		if tell(dump[0].L) != tell(lists(1, 4)) || string(dump[0].B) != "abc" {
			t.Errorf("%d: the dump is spoilt: %s", first, tellParts(dump))
		}
		is(t, q, "spoilt", 20, part("c"), api.Part{B: []byte("de"), L: lists(5, 2)}, api.Part{B: []byte("fgh"), L: lists(7, 1)})
		spoilBytes(q.takeAll())
		is(t, q, "empty", 20)
	}
}

// takeAll takes the bytes of all parts, part by part.
func (q *Queue) takeAll() []byte {
	var all []byte
	for range api.MaxParts {
		b, _, _ := q.Take(math.MaxInt, 4)
		all = append(all, b...)
	}
	return all
}

// Memory: what Take told of a part stays, whatever is put behind it; and what is left of it is not spoilt by it.
func TestTakeLeft(t *testing.T) {
	q := made(t, 8, part("abcdefgh"))
	one, _, _ := q.Take(3, 0)
	puts(t, q, "ijk", nil, 3, api.OK)
	spoilBytes(one[3:])
	is(t, q, "spare room spoilt", 8, part("defghijk"))
	two, _, _ := q.Take(4, 0)
	puts(t, q, "lmno", nil, 4, api.OK)
	if string(one) != "abc" || string(two) != "defg" {
		t.Errorf("put over answers: %q, %q", one, two)
	}
	spoilBytes(one)
	spoilBytes(two)
	is(t, q, "spoilt", 8, part("hijklmno"))
	three, _, _ := q.Take(8, 0)
	puts(t, q, "12345678", nil, 8, api.OK)
	if string(three) != "hijklmno" {
		t.Errorf("put over the last answer: %q", three)
	}
}

// Memory: what Clear told is new, and is not changed by what is put behind it.
func TestClearHandedOut(t *testing.T) {
	q := New(20)
	puts(t, q, "ab", lists(1, 2), 2, api.OK)
	puts(t, q, "c", lists(3, 3), 1, api.OK)
	dump := q.Dump()
	all := q.Clear()
	puts(t, q, "xy", lists(7, 2), 2, api.OK)
	puts(t, q, "z", lists(9, 3), 1, api.OK)
	if tell(all) != tell(lists(1, 5)) {
		t.Errorf("Clear: %s", tell(all))
	}
	spoil(all)
	if tellParts(dump) != tellParts([]api.Part{{B: []byte("ab"), L: lists(1, 2)}, {B: []byte("c"), L: lists(3, 3)}}) {
		t.Errorf("the dump is spoilt: %s", tellParts(dump))
	}
	is(t, q, "spoilt", 20, api.Part{B: []byte("xy"), L: lists(7, 2)}, api.Part{B: []byte("z"), L: lists(9, 3)})
}

// unit is a byte that waits, in the model: whether it begins a part, and what is passed with it.
type unit struct {
	b     byte
	first bool
	l     []api.Passed
}

// plain is a queue as the chapter says it, byte by byte.
type plain struct {
	bound int
	has   []unit
}

func (p *plain) parts() []api.Part {
	var l []api.Part
	for _, u := range p.has {
		if u.first {
			l = append(l, api.Part{L: u.l})
		}
		last := &l[len(l)-1]
		last.B = append(last.B, u.b)
	}
	return l
}

func (p *plain) put(b []byte, l []api.Passed) (int, api.Errno) {
	if len(b) == 0 || len(l) > 4 {
		return 0, api.EINVAL
	}
	begins := len(p.has) == 0 || len(l) != 0
	if len(p.has) >= p.bound || begins && len(p.parts()) >= 16 {
		return 0, api.EAGAIN
	}
	n := 0
	for n < len(b) && len(p.has) < p.bound {
		p.has = append(p.has, unit{b[n], begins, l})
		begins, l = false, nil
		n++
	}
	return n, api.OK
}

func (p *plain) take(n, most int) (b string, told, others []api.Passed) {
	if n < 1 || len(p.has) == 0 {
		return "", nil, nil
	}
	for i, x := range p.has[0].l {
		if i < most {
			told = append(told, x)
		} else {
			others = append(others, x)
		}
	}
	p.has[0].l = nil
	for len(b) < n && len(p.has) > 0 && len(p.has[0].l) == 0 {
		b += string(rune(p.has[0].b))
		p.has = p.has[1:]
	}
	if len(p.has) > 0 {
		p.has[0].first = true
	}
	return b, told, others
}

func (p *plain) clear() []api.Passed {
	var all []api.Passed
	for _, u := range p.has {
		all = append(all, u.l...)
	}
	p.has = nil
	return all
}

// deed is one call: kind 0 is Put of x bytes with y descriptors, 1 is Take(x, y), else Clear.
type deed struct{ kind, x, y int }

// act makes one call on a queue and on its model, and tells whether they answer alike and have the same then; from is the number of the first byte and descriptor that are put.
func act(q *Queue, p *plain, d deed, from int) bool {
	ok := true
	switch d.kind {
	case 0:
		b := make([]byte, d.x)
		for i := range b {
			b[i] = byte((from + i) % 127)
		}
		n, e := q.Put(b, passes(from, d.y))
		wantN, wantE := p.put(b, passes(from, d.y))
		ok = n == wantN && e == wantE
	case 1:
		b, told, others := q.Take(d.x, d.y)
		wantB, wantT, wantO := p.take(d.x, d.y)
		ok = string(b) == wantB && tell(told) == tell(wantT) && tell(others) == tell(wantO)
	default:
		ok = tell(q.Clear()) == tell(p.clear())
	}
	next := 0
	if len(p.has) > 0 {
		next = len(p.has[0].l)
	}
	ok = ok && q.Len() == len(p.has) && q.Room() == p.bound-len(p.has) && q.Next() == next
	return ok && tellParts(q.Dump()) == tellParts(p.parts())
}

// deeds answers the calls on a queue of that bound that may differ.
func deeds(bound int) []deed {
	all := []deed{{2, 0, 0}, {0, 0, 1}, {0, 1, 5}, {1, 0, 1}}
	for n := 1; n <= bound+1; n++ {
		for l := range 3 {
			all = append(all, deed{0, n, l})
		}
		all = append(all, deed{1, n, -1}, deed{1, n, 1}, deed{1, n, 3})
	}
	return all
}

// P10.2 to P10.6: all rows of four calls on small queues, held against the model.
func TestAllRows(t *testing.T) {
	for bound := 1; bound <= 2; bound++ {
		all := deeds(bound)
		for row := range len(all) * len(all) * len(all) * len(all) {
			q, p := New(bound), &plain{bound: bound}
			for i, rest := 0, row; i < 4; i, rest = i+1, rest/len(all) {
				d := all[rest%len(all)]
				if !act(q, p, d, 10*i) {
					t.Fatalf("bound %d, row %d: call %d %v", bound, row, i, d)
				}
			}
		}
	}
}

// row answers a function that tells numbers below n, the same ones in every run.
func row(seed uint32) func(n int) int {
	return func(n int) int {
		seed = seed*1664525 + 1013904223
		return int(seed>>8) % n
	}
}

// bounds are such as come, and what a call has to do with at most then.
func bounds() [][2]int {
	return [][2]int{{1, 3}, {2, 4}, {3, 4}, {8, 4}, {16, 3}, {17, 2}, {40, 3}, {64, 20}, {300, 25}, {1000, 200}, {most - 1, 600}, {most, 600}}
}

// P10.2 to P10.6: long rows of calls, held against the model; they come to 16 parts and to no room, again and again.
func TestLongRows(t *testing.T) {
	next := row(10)
	for _, x := range bounds() {
		bound, size := x[0], x[1]
		q, p := New(bound), &plain{bound: bound}
		for i := range 700 {
			d := deed{next(2), next(size+1) - next(2), next(7) - 1}
			if i/50%2 == 0 && next(3) > 0 {
				d.kind = 0 // it fills up for a while
			}
			if d.kind == 0 {
				d.x, d.y = max(d.x, 0), max(d.y, 0)
			}
			if next(150) == 0 {
				d.kind = 2
			}
			if !act(q, p, d, i) {
				t.Fatalf("bound %d, call %d: %v", bound, i, d)
			}
		}
	}
}

// trail is what was put into a queue and what was told of it: each byte's number in the row of all that were put, and at which of them something was passed.
type trail struct {
	put, told []byte
	passed    map[int][]api.Passed
	gone      map[int]int // how often a descriptor was told
	all       int         // how many descriptors were put
}

func (r *trail) doPut(q *Queue, n, l int) {
	b := make([]byte, n)
	for i := range b {
		b[i] = byte((len(r.put) + i) % 251)
	}
	handed := passes(r.all, l)
	if n, e := q.Put(b, handed); e == api.OK {
		r.passed[len(r.put)] = handed
		r.put = append(r.put, b[:n]...)
		r.all += l
	}
}

func (r *trail) note(l []api.Passed) {
	for _, p := range l {
		r.gone[p.File]++
	}
}

func (r *trail) doTake(t *testing.T, q *Queue, n, first int) {
	at := len(r.told)
	b, told, others := q.Take(n, first)
	r.told = append(r.told, b...)
	r.note(told)
	r.note(others)
	if len(b) == 0 {
		if len(told)+len(others) != 0 {
			t.Fatalf("at %d: descriptors without a byte", at)
		}
		return
	}
	if tell(slices.Concat(told, others)) != tell(r.passed[at]) {
		t.Fatalf("at %d: told %s and %s, not %s", at, tell(told), tell(others), tell(r.passed[at]))
	}
	for i := at + 1; i < len(r.told); i++ {
		if len(r.passed[i]) > 0 {
			t.Fatalf("at %d: the byte %d was told without what is passed with it", at, i)
		}
	}
}

func (r *trail) doClear(q *Queue) {
	r.told = append(r.told, r.put[len(r.told):]...) // these are told by no Take
	r.note(q.Clear())
}

// check says P10.5 and P10.6 of what was told and what waits.
func (r *trail) check(t *testing.T, q *Queue) {
	waits := map[int]int{}
	bytes := slices.Clone(r.told)
	for _, p := range q.Dump() {
		bytes = append(bytes, p.B...)
		for _, x := range p.L {
			waits[x.File]++
		}
	}
	if string(bytes) != string(r.put) {
		t.Fatalf("out of order: %d bytes of %d", len(bytes), len(r.put))
	}
	for i := range r.all {
		if r.gone[i]+waits[i] != 1 {
			t.Fatalf("the descriptor %d: told %d times, waits %d times", i, r.gone[i], waits[i])
		}
	}
	if len(r.gone)+len(waits) != r.all {
		t.Fatalf("%d descriptors are told, %d wait, of %d", len(r.gone), len(waits), r.all)
	}
}

// P10.5, P10.6: bytes in order, with each one what is passed with it; each descriptor once.
func TestInOrderAndOnce(t *testing.T) {
	next := row(5)
	for _, x := range bounds() {
		bound, size := x[0], x[1]
		q, r := New(bound), &trail{passed: map[int][]api.Passed{}, gone: map[int]int{}}
		for i := range 400 {
			switch {
			case next(100) == 0:
				r.doClear(q)
			case next(5) > 1+i/40%2:
				r.doPut(q, next(size+1), max(0, next(8)-2))
			default:
				r.doTake(t, q, next(size+2)-1, next(7)-1)
			}
			r.check(t, q)
		}
		r.doClear(q)
		r.check(t, q)
		if len(r.gone) != r.all || r.all == 0 {
			t.Errorf("bound %d: %d of %d", bound, len(r.gone), r.all)
		}
	}
}
