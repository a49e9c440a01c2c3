package ring

import (
	"bytes"
	"math"
	"slices"
	"strings"
	"testing"

	"purlieu/api"
)

const most = api.MaxBuffer

// fill answers n bytes that go on from the one of that number, so that each of them tells its place among all that were put.
func fill(from, n int) []byte {
	b := make([]byte, n)
	for i := range b {
		b[i] = byte((from + i) % 251) // not a divisor of a bound: no two rounds look alike
	}
	return b
}

// made answers a buffer of that bound with these bytes, whose first one lies at the place that turn says.
func made(t *testing.T, bound, turn int, b string) *Ring {
	t.Helper()
	r := New(bound)
	if r == nil {
		t.Fatalf("New(%d): nil", bound)
	}
	for range turn {
		if n := r.Put([]byte("-")); n != 1 {
			t.Fatal("turn: Put", n)
		}
		if got := r.Take(1); string(got) != "-" {
			t.Fatalf("turn: Take %q", got)
		}
	}
	if n := r.Put([]byte(b)); n != len(b) {
		t.Fatalf("Put(%q): %d", b, n)
	}
	return r
}

// is says what r has: these bytes, of so many that it has room for.
func is(t *testing.T, r *Ring, what string, bound int, b string) {
	t.Helper()
	if r.Len() != len(b) {
		t.Errorf("%s: Len %d, not %d", what, r.Len(), len(b))
	}
	if r.Room() != bound-len(b) {
		t.Errorf("%s: Room %d, not %d", what, r.Room(), bound-len(b))
	}
	if got := string(r.Peek(math.MaxInt)); got != b {
		t.Errorf("%s: bytes %q, not %q", what, got, b)
	}
}

// P9.1: bounds, from the least to the greatest, each with as much room as it says.
func TestNew(t *testing.T) {
	if most != 4096 {
		t.Error("the greatest bound", most)
	}
	for bound := 1; bound <= most; bound++ {
		r := New(bound)
		if r == nil {
			t.Fatalf("New(%d): nil", bound)
		}
		if r.Len() != 0 || r.Room() != bound || len(r.Peek(bound)) != 0 || len(r.Take(bound)) != 0 {
			t.Errorf("New(%d): Len %d, Room %d", bound, r.Len(), r.Room())
		}
		if n := r.Put(make([]byte, most+1)); n != bound || r.Len() != bound || r.Room() != 0 {
			t.Errorf("New(%d): Put %d, Len %d, Room %d", bound, n, r.Len(), r.Room())
		}
	}
}

// P9.1: bounds that are none.
func TestNewWrong(t *testing.T) {
	for _, bound := range []int{0, -1, -2, -most, most + 1, most + 2, 2 * most, math.MaxInt32, math.MinInt32, math.MaxInt, math.MinInt} {
		if New(bound) != nil {
			t.Errorf("New(%d): not nil", bound)
		}
	}
}

// P9.1: two buffers know nothing of one another.
func TestTwo(t *testing.T) {
	a, b := made(t, 3, 0, "abc"), made(t, 3, 2, "x")
	is(t, a, "the one", 3, "abc")
	is(t, b, "the other", 3, "x")
	a.Take(1)
	b.Clear()
	is(t, a, "the one, taken from", 3, "bc")
	is(t, b, "the other, cleared", 3, "")
}

// P9.1, P9.2: of a nil buffer 0 and none, in every call.
func TestNil(t *testing.T) {
	var r *Ring
	for range 2 {
		is(t, r, "nil", 0, "")
		for _, b := range [][]byte{nil, {}, []byte("a"), fill(0, most+1)} {
			if n := r.Put(b); n != 0 {
				t.Error("Put", len(b), n)
			}
		}
		for _, n := range []int{math.MinInt, -1, 0, 1, 2, most, most + 1, math.MaxInt} {
			if got := r.Take(n); len(got) != 0 {
				t.Error("Take", n, got)
			}
			if got := r.Peek(n); len(got) != 0 {
				t.Error("Peek", n, got)
			}
		}
		r.Clear()
	}
}

// The zero value is open, but nothing panics.
func TestZeroValue(t *testing.T) {
	var r Ring
	r.Len()
	r.Room()
	r.Put([]byte("a"))
	r.Peek(1)
	r.Take(1)
	r.Clear()
	r.Put(nil)
}

// The chapter's example.
func TestExample(t *testing.T) {
	r := New(3)
	if n := r.Put([]byte("abcd")); n != 3 {
		t.Error("Put", n)
	}
	if got := r.Take(2); string(got) != "ab" {
		t.Errorf("Take %q", got)
	}
	is(t, r, "the example", 3, "c")
}

// P9.2: Put, with less, as much and more than there is room for, of none, into a full buffer; from every place on.
func TestPut(t *testing.T) {
	for _, x := range []struct {
		had, put string
		want     int
		then     string
	}{
		{"", "a", 1, "a"},
		{"", "abcde", 5, "abcde"},
		{"", "abcdef", 5, "abcde"},
		{"", "abcdefghijklmn", 5, "abcde"},
		{"", "", 0, ""},
		{"x", "", 0, "x"},
		{"x", "a", 1, "xa"},
		{"xy", "ab", 2, "xyab"},
		{"xy", "abc", 3, "xyabc"},
		{"xy", "abcd", 3, "xyabc"},
		{"xyzu", "abcd", 1, "xyzua"},
		{"xyzuv", "a", 0, "xyzuv"},
		{"xyzuv", "abcdefgh", 0, "xyzuv"},
		{"xyzuv", "", 0, "xyzuv"},
	} {
		for turn := range 6 {
			r := made(t, 5, turn, x.had)
			if n := r.Put([]byte(x.put)); n != x.want {
				t.Errorf("%q, Put(%q): %d, not %d", x.had, x.put, n, x.want)
			}
			is(t, r, "then", 5, x.then)
		}
	}
}

// P9.2: nil and empty lists are alike.
func TestPutNone(t *testing.T) {
	for _, b := range [][]byte{nil, {}, []byte("abc")[:0]} {
		for _, had := range []string{"", "x", "xyz"} {
			r := made(t, 3, 1, had)
			if n := r.Put(b); n != 0 {
				t.Error(n)
			}
			is(t, r, "after none", 3, had)
		}
	}
}

// P9.2: Take and Peek of less, of all, of more than there is, of 0 and below; from every place on.
func TestTakeAndPeek(t *testing.T) {
	for _, x := range []struct {
		had        string
		n          int
		want, left string
	}{
		{"abcde", 1, "a", "bcde"},
		{"abcde", 2, "ab", "cde"},
		{"abcde", 4, "abcd", "e"},
		{"abcde", 5, "abcde", ""},
		{"abcde", 6, "abcde", ""},
		{"abcde", math.MaxInt, "abcde", ""},
		{"abcde", 0, "", "abcde"},
		{"abcde", -1, "", "abcde"},
		{"abcde", -5, "", "abcde"},
		{"abcde", math.MinInt, "", "abcde"},
		{"abc", 2, "ab", "c"},
		{"abc", 3, "abc", ""},
		{"abc", 4, "abc", ""},
		{"abc", 5, "abc", ""},
		{"abc", math.MaxInt, "abc", ""},
		{"abc", 0, "", "abc"},
		{"abc", -1, "", "abc"},
		{"abc", math.MinInt, "", "abc"},
		{"", 1, "", ""},
		{"", 0, "", ""},
		{"", -1, "", ""},
		{"", math.MaxInt, "", ""},
		{"", math.MinInt, "", ""},
		{"\x00\xff\x00", 3, "\x00\xff\x00", ""},
	} {
		for turn := range 6 {
			r := made(t, 5, turn, x.had)
			for range 2 {
				if got := r.Peek(x.n); string(got) != x.want {
					t.Errorf("%q, Peek(%d): %q, not %q", x.had, x.n, got, x.want)
				}
				is(t, r, "peeked", 5, x.had)
			}
			if got := r.Take(x.n); string(got) != x.want {
				t.Errorf("%q, Take(%d): %q, not %q", x.had, x.n, got, x.want)
			}
			is(t, r, "taken", 5, x.left)
			if n := r.Put([]byte("uvwxyz")); n != 5-len(x.left) {
				t.Errorf("Put behind Take(%d): %d", x.n, n)
			}
			is(t, r, "put behind", 5, (x.left + "uvwxyz")[:5])
		}
	}
}

// P9.2: Clear of a full, of a partly filled, of an empty buffer, and what is put behind it.
func TestClear(t *testing.T) {
	for _, had := range []string{"", "a", "abc", "abcd"} {
		for turn := range 5 {
			r := made(t, 4, turn, had)
			for range 2 {
				r.Clear()
				is(t, r, "cleared", 4, "")
				if got := r.Take(1); len(got) != 0 {
					t.Errorf("Take behind Clear: %q", got)
				}
			}
			if n := r.Put([]byte("uv")); n != 2 {
				t.Error("Put behind Clear", n)
			}
			is(t, r, "put behind", 4, "uv")
			if n := r.Put([]byte("wxyz")); n != 2 {
				t.Error("Put of more behind Clear", n)
			}
			is(t, r, "full behind", 4, "uvwx")
			if got := r.Take(9); string(got) != "uvwx" {
				t.Errorf("Take of all behind Clear: %q", got)
			}
		}
	}
}

// Memory: what is handed in is neither changed nor kept, its spare room included.
func TestHandedIn(t *testing.T) {
	for turn := range 5 {
		r := made(t, 4, turn, "x")
		whole := []byte("abcdefgh")
		if n := r.Put(whole[:5:8]); n != 3 {
			t.Error("Put", n)
		}
		if string(whole) != "abcdefgh" {
			t.Errorf("changed: %q", whole)
		}
		for i := range whole {
			whole[i] = '!'
		}
		is(t, r, "what was handed in changed", 4, "xabc")
		r.Take(3)
		r.Put([]byte("uvw"))
		r.Clear()
		if string(whole) != "!!!!!!!!" {
			t.Errorf("changed later: %q", whole)
		}
	}
}

// spoil changes a list and its spare room.
func spoil(b []byte) {
	b = b[:cap(b)]
	for i := range b {
		b[i] = '!'
	}
}

// Memory: an answer is new: what is done to it does not reach the buffer or another answer, and the other way round.
func TestHandedOut(t *testing.T) {
	for turn := range 5 {
		r := made(t, 4, turn, "abcd")
		one, two := r.Peek(3), r.Peek(4)
		spoil(one)
		if string(two) != "abcd" {
			t.Errorf("the other answer: %q", two)
		}
		is(t, r, "one spoilt", 4, "abcd")
		three := r.Take(2)
		spoil(two)
		if string(three) != "ab" {
			t.Errorf("Take: %q", three)
		}
		four := r.Peek(2)
		r.Put([]byte("xy"))
		if string(three) != "ab" || string(four) != "cd" {
			t.Errorf("put over answers: %q, %q", three, four)
		}
		spoil(three)
		spoil(four)
		is(t, r, "all spoilt", 4, "cdxy")
		spoil(r.Take(0))
		spoil(r.Peek(-1))
		is(t, r, "none spoilt", 4, "cdxy")
		last := r.Take(4)
		r.Clear()
		r.Put([]byte("1234"))
		if string(last) != "cdxy" {
			t.Errorf("put over the last answer: %q", last)
		}
		spoil(last)
		is(t, r, "the last spoilt", 4, "1234")
	}
}

// plain is a buffer as the chapter says it: a list that is cut anew each time.
type plain struct {
	bound int
	has   string
}

func (p *plain) put(b string) int {
	n := 0
	for n < len(b) && len(p.has) < p.bound {
		p.has += b[n : n+1]
		n++
	}
	return n
}

func (p *plain) peek(n int) string {
	if n < 0 {
		return ""
	}
	if n > len(p.has) {
		return p.has
	}
	return p.has[:n]
}

func (p *plain) take(n int) string {
	got := p.peek(n)
	p.has = strings.TrimPrefix(p.has, got)
	return got
}

// act makes one call on a buffer and on its model (kind 0 is Put, 1 Take, 2 Peek, else Clear), and tells whether they answer alike and have the same then.
func act(r *Ring, p *plain, kind, n, from int) bool {
	ok := true
	switch kind {
	case 0:
		b := fill(from, n)
		ok = r.Put(b) == p.put(string(b))
	case 1:
		ok = string(r.Take(n)) == p.take(n)
	case 2:
		ok = string(r.Peek(n)) == p.peek(n)
	default:
		r.Clear()
		p.has = ""
	}
	ok = ok && r.Len() == len(p.has) && r.Room() == p.bound-len(p.has) && r.Len()+r.Room() == p.bound
	return ok && string(r.Peek(p.bound+1)) == p.has
}

// deed is one call, as act takes it.
type deed struct{ kind, n int }

// deeds answers all calls on a buffer of that bound that may differ.
func deeds(bound int) []deed {
	all := []deed{{3, 0}}
	for n := -1; n <= bound+1; n++ {
		all = append(all, deed{1, n}, deed{2, n})
		if n >= 0 {
			all = append(all, deed{0, n})
		}
	}
	return all
}

// P9.2 to P9.4: all rows of four calls on small buffers, from every place on.
func TestAllRows(t *testing.T) {
	for bound := 1; bound <= 3; bound++ {
		all := deeds(bound)
		for turn := range bound {
			for row := range len(all) * len(all) * len(all) * len(all) {
				r, p := made(t, bound, turn, ""), &plain{bound: bound}
				for i, rest := 0, row; i < 4; i, rest = i+1, rest/len(all) {
					d := all[rest%len(all)]
					if !act(r, p, d.kind, d.n, 10*i) {
						t.Fatalf("bound %d, turn %d, row %d: call %d %v", bound, turn, row, i, d)
					}
				}
			}
		}
	}
}

// P9.2 to P9.4: long rows of calls, on buffers of bounds such as come.
func TestLongRows(t *testing.T) {
	state := uint32(9)
	next := func(n int) int { // the same row in every run
		state = state*1664525 + 1013904223
		return int(state>>8) % n
	}
	for _, bound := range []int{1, 2, 3, 7, 8, 63, 64, 65, 255, 256, 257, 1000, most - 1, most} {
		r, p := New(bound), &plain{bound: bound}
		for i := range 600 {
			kind := next(3)
			if next(100) == 0 {
				kind = 3
			}
			n := next(bound+3) - 1
			if kind == 0 {
				n = max(n, 0)
			}
			if !act(r, p, kind, n, i) {
				t.Fatalf("bound %d, call %d: %d of %d", bound, i, kind, n)
			}
		}
	}
}

// P9.3: all that was taken, then what is there, is all that was put, in its order, over many rounds.
func TestInOrder(t *testing.T) {
	for _, bound := range []int{1, 2, 3, 5, 64, 100, most - 1, most} {
		for _, step := range [][2]int{{1, 1}, {2, 1}, {3, 2}, {bound, 1}, {bound, bound}, {bound/2 + 1, bound/3 + 1}, {bound + 5, bound - 1}} {
			r := New(bound)
			var put, taken []byte
			for range 300 {
				b := fill(len(put), step[0])
				put = append(put, b[:r.Put(b)]...)
				taken = append(taken, r.Take(step[1])...)
				if !bytes.Equal(put, slices.Concat(taken, r.Peek(bound))) {
					t.Fatalf("bound %d, by %v: out of order at %d", bound, step, len(put))
				}
				if r.Len()+r.Room() != bound || r.Len() != len(put)-len(taken) {
					t.Fatalf("bound %d, by %v: Len %d, Room %d", bound, step, r.Len(), r.Room())
				}
			}
		}
	}
}

// P9.4: Len and Room together are the bound, whatever is done.
func TestWithinItsBound(t *testing.T) {
	for _, bound := range []int{1, 2, 4095, most} {
		r := New(bound)
		for i, d := range []func(){
			func() { r.Put(fill(0, bound-1)) },
			func() { r.Put(fill(0, 1)) },
			func() { r.Put(fill(0, 1)) },
			func() { r.Put(fill(0, 2*most)) },
			func() { r.Peek(math.MaxInt) },
			func() { r.Take(math.MinInt) },
			func() { r.Take(bound / 2) },
			func() { r.Put(fill(0, 2*most)) },
			func() { r.Take(math.MaxInt) },
			func() { r.Take(1) },
			func() { r.Put(nil) },
			func() { r.Clear() },
			func() { r.Put(fill(0, bound+1)) },
			func() { r.Clear() },
			func() { r.Clear() },
		} {
			d()
			if r.Len()+r.Room() != bound || r.Len() < 0 || r.Room() < 0 {
				t.Errorf("bound %d, call %d: Len %d, Room %d", bound, i, r.Len(), r.Room())
			}
		}
	}
}
