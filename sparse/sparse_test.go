package sparse

import (
	"bytes"
	"math"
	"slices"
	"strings"
	"testing"

	"purlieu/api"
)

const (
	page   = api.Page
	most   = api.MaxFile
	blocks = api.MaxFile / api.Page
)

// fill answers n bytes, none of them 0.
func fill(n int) []byte {
	b := make([]byte, n)
	for i := range b {
		b[i] = byte(1 + i%255)
	}
	return b
}

// zeros answers n bytes of a hole.
func zeros(n int) string { return strings.Repeat("\x00", n) }

// written answers a file with these bytes from off on.
func written(t *testing.T, off int, b string) *File {
	t.Helper()
	f := New()
	write(t, f, off, b)
	return f
}

// write lays b, which must go well, and answers how many blocks were told.
func write(t *testing.T, f *File, off int, b string) int {
	t.Helper()
	n, e := f.Write(off, []byte(b), blocks)
	if e != api.OK {
		t.Fatalf("Write(%d, %d bytes): %d", off, len(b), e)
	}
	return n
}

// cut cuts f, which must go well, and answers how many blocks were told.
func cut(t *testing.T, f *File, n int) int {
	t.Helper()
	less, e := f.Truncate(n)
	if e != api.OK {
		t.Fatalf("Truncate(%d): %d", n, e)
	}
	return less
}

// has answers the numbers of all blocks of f, those that can't be among them.
func has(f *File) []int {
	var all []int
	for i := -2; i <= blocks+2; i++ {
		if f.Has(i) {
			all = append(all, i)
		}
	}
	return all
}

// is says what f has: so many bytes, these, and these blocks.
func is(t *testing.T, f *File, what string, size int, bytes string, numbers ...int) {
	t.Helper()
	if f.Size() != size {
		t.Errorf("%s: Size %d, not %d", what, f.Size(), size)
	}
	if got := string(f.Read(0, most)); got != bytes {
		t.Errorf("%s: bytes %q, not %q", what, got, bytes)
	}
	if f.Blocks() != len(numbers) || !slices.Equal(has(f), numbers) {
		t.Errorf("%s: %d blocks %v, not %v", what, f.Blocks(), has(f), numbers)
	}
}

// plain is a file as the chapter says it, each byte and each block by itself.
type plain struct {
	size int
	byte [most]byte
	has  [blocks]bool
}

func (p *plain) need(off, n int) int {
	if n < 1 || off < 0 || n > most || off > most || off+n > most {
		return 0
	}
	need := 0
	for i := range blocks {
		if !p.has[i] && i*page < off+n && off < (i+1)*page {
			need++
		}
	}
	return need
}

func (p *plain) write(off int, b []byte, room int) (int, api.Errno) {
	if off < 0 {
		return 0, api.EINVAL
	}
	if off > most || len(b) > most || off+len(b) > most {
		return 0, api.EFBIG
	}
	need := p.need(off, len(b))
	if need > room {
		return 0, api.ENOSPC
	}
	for i := range b {
		p.byte[off+i] = b[i]
		p.has[(off+i)/page] = true
		p.size = max(p.size, off+i+1)
	}
	return need, api.OK
}

func (p *plain) truncate(n int) (int, api.Errno) {
	if n < 0 {
		return 0, api.EINVAL
	}
	if n > most {
		return 0, api.EFBIG
	}
	less := 0
	for i := range blocks {
		if p.has[i] && i*page >= n {
			p.has[i] = false
			less++
		}
	}
	for i := n; i < most; i++ {
		p.byte[i] = 0
	}
	p.size = n
	return less, api.OK
}

func (p *plain) read(off, n int) []byte {
	var got []byte
	for at := off; off >= 0 && at < p.size && at-off < n; at++ {
		got = append(got, p.byte[at])
	}
	return got
}

func (p *plain) numbers() []int {
	var all []int
	for i := range blocks {
		if p.has[i] {
			all = append(all, i)
		}
	}
	return all
}

// agree says that f and p have the same.
func agree(t *testing.T, f *File, p *plain) bool {
	t.Helper()
	numbers := p.numbers()
	if f.Size() != p.size || f.Blocks() != len(numbers) || !slices.Equal(has(f), numbers) {
		t.Errorf("size %d, blocks %v; not %d, %v", f.Size(), has(f), p.size, numbers)
		return false
	}
	if !bytes.Equal(f.Read(0, most), p.byte[:p.size]) {
		t.Error("other bytes")
		return false
	}
	return true
}

// P4.1: a file of no bytes.
func TestNew(t *testing.T) {
	f := New()
	if f == nil {
		t.Fatal("no file")
	}
	is(t, f, "new", 0, "")
	if n := f.Need(0, most); n != blocks {
		t.Error("Need", n)
	}
	g := New()
	write(t, f, 0, "a")
	is(t, g, "the other", 0, "")
	is(t, f, "the one", 1, "a", 0)
}

// P4.1: blocks by their numbers, and numbers that are none's.
func TestHas(t *testing.T) {
	f := written(t, 2*page, "a")
	write(t, f, most-1, "z")
	if got := has(f); !slices.Equal(got, []int{2, blocks - 1}) {
		t.Error(got)
	}
	for _, i := range []int{math.MinInt, -page, -1, 0, 1, 3, blocks, most, math.MaxInt} {
		if f.Has(i) {
			t.Error(i)
		}
	}
	if f.Blocks() != 2 || f.Size() != most {
		t.Error(f.Blocks(), f.Size())
	}
}

// P4.1: a nil file says what one of no bytes says, and can't be changed.
func TestNil(t *testing.T) {
	var f *File
	is(t, f, "nil", 0, "")
	for _, off := range []int{math.MinInt, -1, 0, 1, 63, 64, most - 1, most, most + 1, math.MaxInt} {
		for _, n := range []int{math.MinInt, -1, 0, 1, 2, 64, 65, most, most + 1, math.MaxInt} {
			if got := f.Read(off, n); len(got) != 0 {
				t.Error("Read", off, n, got)
			}
			if got, want := f.Need(off, n), New().Need(off, n); got != want {
				t.Error("Need", off, n, got, want)
			}
			if got, e := f.Truncate(n); got != 0 || e != api.EINVAL {
				t.Error("Truncate", n, got, e)
			}
			if got, e := f.Write(off, fill(3), n); got != 0 || e != api.EINVAL {
				t.Error("Write", off, n, got, e)
			}
			if got, e := f.Write(off, nil, n); got != 0 || e != api.EINVAL {
				t.Error("Write of none", off, n, got, e)
			}
		}
	}
}

// The zero value is open, but nothing panics.
func TestZeroValue(t *testing.T) {
	var f File
	f.Size()
	f.Blocks()
	f.Has(0)
	f.Read(0, 1)
	f.Need(0, 1)
	f.Truncate(3)
	f.Write(0, fill(3), 1)
}

// P4.2: ordinary reads, up to n and up to the end.
func TestRead(t *testing.T) {
	f := written(t, 0, "hello")
	write(t, f, 130, "there")
	for _, x := range []struct {
		off, n int
		want   string
	}{
		{0, 5, "hello"},
		{0, 1, "h"},
		{1, 3, "ell"},
		{0, 7, "hello\x00\x00"},
		{4, 2, "o\x00"},
		{5, 3, zeros(3)},
		{60, 10, zeros(10)},
		{64, 64, zeros(64)},
		{128, 99, "\x00\x00there"},
		{130, 5, "there"},
		{130, 6, "there"},
		{130, math.MaxInt, "there"},
		{134, 1, "e"},
		{134, 2, "e"},
		{134, math.MaxInt, "e"},
		{0, 0, ""},
		{134, 0, ""},
		{135, 0, ""},
		{135, 1, ""},
		{136, 1, ""},
		{191, 1, ""},
		{192, 1, ""},
		{most, 1, ""},
		{math.MaxInt, 1, ""},
		{math.MaxInt, math.MaxInt, ""},
		{-1, 5, ""},
		{-5, 10, ""},
		{math.MinInt, math.MaxInt, ""},
		{0, -1, ""},
		{3, math.MinInt, ""},
		{-1, -1, ""},
		{0, math.MaxInt, "hello" + zeros(125) + "there"},
	} {
		if got := string(f.Read(x.off, x.n)); got != x.want {
			t.Errorf("Read(%d, %d): %q, not %q", x.off, x.n, got, x.want)
		}
	}
	is(t, f, "read", 135, "hello"+zeros(125)+"there", 0, 2)
}

// P4.2: reads at all places near blocks' edges, of all lengths.
func TestReadEach(t *testing.T) {
	f, p := New(), new(plain)
	b := fill(2*page + 10)
	for _, off := range []int{page - 5, 5 * page} {
		f.Write(off, b, blocks)
		p.write(off, b, blocks)
	}
	for off := -2; off < 8*page; off++ {
		for n := -1; n < 3*page+2; n++ {
			if got, want := f.Read(off, n), p.read(off, n); !bytes.Equal(got, want) {
				t.Fatalf("Read(%d, %d): %q, not %q", off, n, got, want)
			}
		}
	}
}

// P4.2: what is needed, of a file with blocks 1 and 1023.
func TestNeed(t *testing.T) {
	f := written(t, page, "a")
	write(t, f, most-1, "z")
	for _, x := range []struct{ off, n, want int }{
		{0, 1, 1},
		{0, page, 1},
		{0, page + 1, 1},
		{0, 2 * page, 1},
		{0, 2*page + 1, 2},
		{page - 1, 1, 1},
		{page - 1, 2, 1},
		{page, page, 0},
		{page, page + 1, 1},
		{2*page - 1, 1, 0},
		{2*page - 1, 2, 1},
		{2 * page, 3 * page, 3},
		{2*page - 1, 3*page + 2, 4},
		{0, most, blocks - 2},
		{1, most - 1, blocks - 2},
		{1, most, 0},
		{0, most + 1, 0},
		{most - 1, 1, 0},
		{most - page - 1, 1, 1},
		{most - page - 1, 2, 1},
		{most - 1, 2, 0},
		{most - page - 1, page + 2, 0},
		{most, 1, 0},
		{most, 0, 0},
		{0, 0, 0},
		{5, -1, 0},
		{0, math.MinInt, 0},
		{-1, 1, 0},
		{-1, 5 * page, 0},
		{-page, 3 * page, 0},
		{math.MinInt, 1, 0},
		{math.MinInt, math.MaxInt, 0},
		{math.MaxInt, 1, 0},
		{1, math.MaxInt, 0},
		{math.MaxInt, math.MaxInt, 0},
	} {
		if got := f.Need(x.off, x.n); got != x.want {
			t.Errorf("Need(%d, %d): %d, not %d", x.off, x.n, got, x.want)
		}
	}
	if f.Size() != most || f.Blocks() != 2 {
		t.Error(f.Size(), f.Blocks())
	}
}

// P4.2: a block that a file has only holes beside counts by itself, whatever the size.
func TestNeedHoles(t *testing.T) {
	f := New()
	cut(t, f, most)
	if n := f.Need(0, most); n != blocks {
		t.Error("of a hole", n)
	}
	write(t, f, 0, string(fill(most)))
	if n := f.Need(0, most); n != 0 {
		t.Error("of a full file", n)
	}
}

// P4.2: at all places near blocks' edges, and of all lengths.
func TestNeedEach(t *testing.T) {
	f, p := New(), new(plain)
	for _, off := range []int{page, 4*page - 1, 6 * page} {
		f.Write(off, fill(1), 1)
		p.write(off, fill(1), 1)
	}
	for off := range 4*page + 2 {
		for n := range 4 * page {
			if got, want := f.Need(off, n), p.need(off, n); got != want {
				t.Fatalf("Need(%d, %d): %d, not %d", off, n, got, want)
			}
		}
	}
}

// P4.3: the edges of blocks, and of what was there.
func TestWrite(t *testing.T) {
	all := string(fill(3 * page))
	for _, x := range []struct {
		what string
		off  int
		b    string
		more int
		size int
		read string
		has  []int
	}{
		{"the first byte", 0, "a", 1, 1, "a", []int{0}},
		{"up to a block's last byte", page - 3, "abc", 1, page, zeros(page-3) + "abc", []int{0}},
		{"at a block's last byte", page - 1, "a", 1, page, zeros(page-1) + "a", []int{0}},
		{"from a block's last byte on", page - 1, "ab", 2, page + 1, zeros(page-1) + "ab", []int{0, 1}},
		{"from a block's first byte on", page, "ab", 1, page + 2, zeros(page) + "ab", []int{1}},
		{"a whole block", page, all[:page], 1, 2 * page, zeros(page) + all[:page], []int{1}},
		{"a block and a byte", page, all[:page+1], 2, 2*page + 1, zeros(page) + all[:page+1], []int{1, 2}},
		{"several blocks", page - 1, all[:2*page+2], 4, 3*page + 1, zeros(page-1) + all[:2*page+2], []int{0, 1, 2, 3}},
		{"behind a hole", 3*page + 7, "xyz", 1, 3*page + 10, zeros(3*page+7) + "xyz", []int{3}},
		{"bytes that are 0", 5, zeros(page), 2, page + 5, zeros(page + 5), []int{0, 1}},
	} {
		f := New()
		if n, e := f.Write(x.off, []byte(x.b), x.more); n != x.more || e != api.OK {
			t.Error(x.what, n, e)
		}
		is(t, f, x.what, x.size, x.read, x.has...)
		if n, e := f.Write(x.off, []byte(x.b), 0); n != 0 || e != api.OK {
			t.Error(x.what, "again:", n, e)
		}
		is(t, f, x.what+" again", x.size, x.read, x.has...)
	}
}

// P4.3: what is there already stays, but for the bytes written; the size is the greater one.
func TestWriteOver(t *testing.T) {
	f := written(t, 0, "0123456789")
	if n := write(t, f, 3, "abc"); n != 0 {
		t.Error(n)
	}
	is(t, f, "within", 10, "012abc6789", 0)
	write(t, f, 8, "xy")
	is(t, f, "up to the end", 10, "012abc67xy", 0)
	write(t, f, 9, "zz")
	is(t, f, "over the end", 11, "012abc67xzz", 0)
	write(t, f, 11, "!")
	is(t, f, "at the end", 12, "012abc67xzz!", 0)
	write(t, f, 14, "?")
	is(t, f, "beyond the end", 15, "012abc67xzz!\x00\x00?", 0)
	if n := write(t, f, 2*page, "k"); n != 1 {
		t.Error(n)
	}
	if n := write(t, f, page-1, string(fill(page+2))); n != 1 {
		t.Error("between", n)
	}
	is(t, f, "between", 2*page+1, "012abc67xzz!\x00\x00?"+zeros(page-16)+string(fill(page+2)), 0, 1, 2)
}

// P4.3: a write of no bytes makes no block and no size, and yet has its errors.
func TestWriteNone(t *testing.T) {
	for _, b := range [][]byte{nil, {}, make([]byte, 0, 9)} {
		f := New()
		for _, off := range []int{0, 1, page - 1, page, 99, most - 1, most} {
			if n, e := f.Write(off, b, 0); n != 0 || e != api.OK {
				t.Error(off, n, e)
			}
			is(t, f, "nothing", 0, "")
		}
		for _, x := range []struct {
			off, room int
			e         api.Errno
		}{
			{-1, 9, api.EINVAL}, {math.MinInt, -1, api.EINVAL}, {most + 1, 9, api.EFBIG}, {math.MaxInt, -1, api.EFBIG}, {0, -1, api.ENOSPC}, {most, math.MinInt, api.ENOSPC},
		} {
			if n, e := f.Write(x.off, b, x.room); n != 0 || e != x.e {
				t.Error(x, n, e)
			}
		}
		write(t, f, 0, "ab")
		f.Write(1, b, 0)
		f.Write(50, b, 0)
		is(t, f, "as it was", 2, "ab", 0)
	}
}

// P4.3: exactly MaxFile, and one more.
func TestWriteMost(t *testing.T) {
	for _, x := range []struct {
		off, n, more int
		e            api.Errno
	}{
		{0, most, blocks, api.OK},
		{0, most + 1, 0, api.EFBIG},
		{1, most - 1, blocks, api.OK},
		{1, most, 0, api.EFBIG},
		{most - 1, 1, 1, api.OK},
		{most - 1, 2, 0, api.EFBIG},
		{most, 1, 0, api.EFBIG},
		{most + 1, 1, 0, api.EFBIG},
		{math.MaxInt, 1, 0, api.EFBIG},
		{math.MaxInt - 1, 5, 0, api.EFBIG},
		{math.MaxInt, most + 1, 0, api.EFBIG},
		{5, 2 * most, 0, api.EFBIG},
	} {
		f := New()
		b := fill(x.n)
		n, e := f.Write(x.off, b, blocks)
		if n != x.more || e != x.e {
			t.Errorf("Write(%d, %d bytes): %d %d", x.off, x.n, n, e)
		}
		if e != api.OK {
			is(t, f, "an error", 0, "")
		} else if f.Size() != most || f.Blocks() != x.more || !bytes.Equal(f.Read(x.off, most), b) {
			t.Errorf("Write(%d, %d bytes): %d, %d", x.off, x.n, f.Size(), f.Blocks())
		}
	}
}

// P4.3: room that is just enough, and one less; blocks that are there need none.
func TestWriteRoom(t *testing.T) {
	f := written(t, page, "mid")
	for _, room := range []int{1, 0, -1, math.MinInt} {
		if n, e := f.Write(0, fill(3*page), room); n != 0 || e != api.ENOSPC {
			t.Error(room, n, e)
		}
		is(t, f, "no room", page+3, zeros(page)+"mid", 1)
	}
	if n, e := f.Write(0, fill(3*page), 2); n != 2 || e != api.OK {
		t.Error(n, e)
	}
	is(t, f, "room", 3*page, string(fill(3*page)), 0, 1, 2)
	if n, e := f.Write(5, []byte("a"), -1); n != 0 || e != api.ENOSPC {
		t.Error("room below 0", n, e)
	}
	if n, e := f.Write(5, []byte("a"), 0); n != 0 || e != api.OK {
		t.Error("no room needed", n, e)
	}
	if n, e := f.Write(3*page, []byte("a"), math.MaxInt); n != 1 || e != api.OK {
		t.Error("much room", n, e)
	}
}

// P4.3: the error named first wins, and nothing is changed.
func TestWriteErrors(t *testing.T) {
	f := written(t, 3, "stay")
	for _, x := range []struct {
		off, n, room int
		e            api.Errno
	}{
		{-1, 1, 9, api.EINVAL},
		{-1, most + 1, 9, api.EINVAL},
		{-1, most + 2, 0, api.EINVAL},
		{-1, 1, -1, api.EINVAL},
		{-page, 3 * page, 0, api.EINVAL},
		{math.MinInt, most + 2, -1, api.EINVAL},
		{most, 1, 0, api.EFBIG},
		{most, 1, -1, api.EFBIG},
		{0, most + 1, 0, api.EFBIG},
		{math.MaxInt, 1, -1, api.EFBIG},
		{page, 1, 0, api.ENOSPC},
		{0, most, blocks - 2, api.ENOSPC},
	} {
		if n, e := f.Write(x.off, fill(x.n), x.room); n != 0 || e != x.e {
			t.Errorf("Write(%d, %d bytes, %d): %d %d, not %d", x.off, x.n, x.room, n, e, x.e)
		}
		is(t, f, "an error", 7, zeros(3)+"stay", 0)
	}
}

// P4.4: cuts within a block, at its edges, at and beyond the end.
func TestTruncate(t *testing.T) {
	all := string(fill(3*page + 5))
	for _, x := range []struct {
		n, less int
		read    string
		has     []int
	}{
		{0, 4, "", nil},
		{1, 3, all[:1], []int{0}},
		{page - 1, 3, all[:page-1], []int{0}},
		{page, 3, all[:page], []int{0}},
		{page + 1, 2, all[:page+1], []int{0, 1}},
		{2 * page, 2, all[:2*page], []int{0, 1}},
		{3 * page, 1, all[:3*page], []int{0, 1, 2}},
		{3*page + 1, 0, all[:3*page+1], []int{0, 1, 2, 3}},
		{3*page + 4, 0, all[:3*page+4], []int{0, 1, 2, 3}},
		{3*page + 5, 0, all, []int{0, 1, 2, 3}},
		{3*page + 6, 0, all + "\x00", []int{0, 1, 2, 3}},
		{4 * page, 0, all + zeros(page-5), []int{0, 1, 2, 3}},
		{9*page + 1, 0, all + zeros(6*page-4), []int{0, 1, 2, 3}},
		{most, 0, all + zeros(most-3*page-5), []int{0, 1, 2, 3}},
	} {
		f := written(t, 0, all)
		for range 2 {
			if n, e := f.Truncate(x.n); n != x.less || e != api.OK {
				t.Errorf("Truncate(%d): %d %d", x.n, n, e)
			}
			is(t, f, "cut", x.n, x.read, x.has...)
			x.less = 0
		}
		cut(t, f, most)
		is(t, f, "and grown", most, (x.read + zeros(most))[:most], x.has...)
	}
}

// P4.4: a file of no bytes cut; blocks that it has not are not counted.
func TestTruncateHoles(t *testing.T) {
	f := New()
	if n := cut(t, f, 0); n != 0 {
		t.Error(n)
	}
	is(t, f, "none", 0, "")
	if n := cut(t, f, 130); n != 0 {
		t.Error(n)
	}
	is(t, f, "all hole", 130, zeros(130))
	write(t, f, 0, "a")
	write(t, f, 5*page, "b")
	write(t, f, 9*page+3, "c")
	if n := cut(t, f, 2*page); n != 2 {
		t.Error(n)
	}
	is(t, f, "cut in a hole", 2*page, "a"+zeros(2*page-1), 0)
}

// P4.4: wrong numbers change nothing.
func TestTruncateErrors(t *testing.T) {
	f := written(t, 3, "stay")
	for n, want := range map[int]api.Errno{-1: api.EINVAL, -page: api.EINVAL, math.MinInt: api.EINVAL, most + 1: api.EFBIG, most + page: api.EFBIG, math.MaxInt: api.EFBIG} {
		if less, e := f.Truncate(n); less != 0 || e != want {
			t.Errorf("Truncate(%d): %d %d, not %d", n, less, e, want)
		}
		is(t, f, "an error", 7, zeros(3)+"stay", 0)
	}
}

// P4.5: what was cut off is 0, whichever way the file grows again.
func TestHoles(t *testing.T) {
	all := string(fill(2 * page))
	for _, at := range []int{0, 1, 10, page - 1, page, page + 1, 2*page - 1} {
		grown := written(t, 0, all)
		cut(t, grown, at)
		cut(t, grown, 2*page)
		if got := string(grown.Read(0, most)); got != all[:at]+zeros(2*page-at) {
			t.Errorf("cut at %d and grown: %q", at, got)
		}
		behind := written(t, 0, all)
		cut(t, behind, at)
		write(t, behind, 2*page, "!")
		if got := string(behind.Read(0, most)); got != all[:at]+zeros(2*page-at)+"!" {
			t.Errorf("cut at %d and written behind: %q", at, got)
		}
		again := written(t, 0, all)
		cut(t, again, at)
		write(t, again, at+2, "!")
		if got := string(again.Read(0, most)); got != all[:at]+"\x00\x00!" {
			t.Errorf("cut at %d and written a little behind: %q", at, got)
		}
	}
}

// step is a Write, or a Truncate if cut holds.
type step struct {
	cut          bool
	off, n, room int
}

// do does a step at both, and says that they tell and have the same; it answers what was told.
func (s step) do(t *testing.T, f *File, p *plain, mark byte) (int, bool) {
	t.Helper()
	var got, want int
	var e, wantE api.Errno
	if s.cut {
		got, e = f.Truncate(s.off)
		want, wantE = p.truncate(s.off)
	} else {
		b := bytes.Repeat([]byte{mark}, s.n)
		got, e = f.Write(s.off, b, s.room)
		want, wantE = p.write(s.off, b, s.room)
	}
	if got != want || e != wantE {
		t.Errorf("%+v: %d %d, not %d %d", s, got, e, want, wantE)
		return 0, false
	}
	return got, agree(t, f, p)
}

// P4.3, P4.4, P4.5, P4.6: all rows of three steps at the edges, each byte by itself.
func TestRows(t *testing.T) {
	steps := []step{
		{off: 0, n: 1, room: 1}, {off: 0, n: page, room: 1}, {off: 0, n: page + 1, room: 1}, {off: page - 1, n: 2, room: 2},
		{off: page, n: 3 * page, room: 3}, {off: 3, n: 2 * page, room: 9}, {off: 2*page - 1, n: 1, room: 1}, {off: 4 * page, n: 7, room: 1},
		{off: 100, n: 0, room: 0}, {off: -1, n: 1, room: 1},
		{cut: true, off: 0}, {cut: true, off: 1}, {cut: true, off: page - 1}, {cut: true, off: page}, {cut: true, off: page + 1},
		{cut: true, off: 3*page + 5}, {cut: true, off: 5 * page}, {cut: true, off: -1}, {cut: true, off: most + 1},
	}
	p := new(plain)
	for i := range len(steps) * len(steps) * len(steps) {
		row := []step{steps[i%len(steps)], steps[i/len(steps)%len(steps)], steps[i/len(steps)/len(steps)]}
		f := New()
		p.truncate(0)
		for j, s := range row {
			if _, ok := s.do(t, f, p, byte('a'+j)); !ok {
				t.Fatalf("at %d of %+v", j, row)
			}
		}
	}
}

// P4.3 to P4.6: long rows over the whole file; Blocks is what was told.
func TestLongRows(t *testing.T) {
	seed := uint32(1)
	next := func(n int) int {
		seed = seed*1664525 + 1013904223
		return int(seed>>8) % n
	}
	f, p, told := New(), new(plain), 0
	for i := range 3000 {
		s := step{off: next(most + 2), n: next(5 * page), room: next(8)}
		switch next(8) {
		case 0:
			s.cut = true
		case 1:
			s = step{cut: true, off: f.Size() - next(3*page)}
		case 2:
			s.off = next(20) * page
		}
		n, ok := s.do(t, f, p, byte(i))
		if !ok {
			t.Fatalf("at %d, %+v", i, s)
		}
		if s.cut {
			n = -n
		}
		if told += n; f.Blocks() != told {
			t.Fatalf("at %d: %d blocks, %d told", i, f.Blocks(), told)
		}
	}
}

// P4.6: what Writes told less what Truncates told, errors included.
func TestBlocks(t *testing.T) {
	f, told := New(), 0
	for _, off := range []int{0, page - 1, 3 * page, 3*page + 1, -1, most, 10*page - 1} {
		n, _ := f.Write(off, fill(2), 2)
		told += n
		if f.Blocks() != told {
			t.Error(off, f.Blocks(), told)
		}
	}
	if told != 5 {
		t.Error("told", told)
	}
	for _, n := range []int{most + 1, most, 10 * page, 9 * page, -1, page + 1, 0, 0} {
		less, _ := f.Truncate(n)
		told -= less
		if f.Blocks() != told {
			t.Error(n, f.Blocks(), told)
		}
	}
	if told != 0 {
		t.Error("left", told)
	}
}

// Memory: what is written is neither changed nor kept, spare room included.
func TestWriteKeepsNothing(t *testing.T) {
	for _, size := range []int{1, 5, page, page + 1, 3 * page} {
		room := fill(size + 2*page)
		b := room[:size]
		f := New()
		f.Write(page, b, blocks)
		if !bytes.Equal(room, fill(size+2*page)) {
			t.Error("changed", size)
		}
		clear(room)
		if got := f.Read(page, most); !bytes.Equal(got, fill(size)) {
			t.Error("kept", size)
		}
		write(t, f, page, strings.Repeat("w", size+page))
		cut(t, f, 0)
		if !bytes.Equal(room, make([]byte, len(room))) {
			t.Error("written later", size)
		}
	}
}

// Memory: what is read is new, spare room included.
func TestReadIsNew(t *testing.T) {
	f := written(t, 0, string(fill(2*page)))
	want := fill(2 * page)
	for _, x := range [][2]int{{0, 2 * page}, {0, page}, {page, page}, {10, 5}, {page - 1, 2}, {0, 0}} {
		one, two := f.Read(x[0], x[1]), f.Read(x[0], x[1])
		scribble(one)
		if !bytes.Equal(two, want[x[0]:x[0]+x[1]]) {
			t.Error("shared by two answers", x)
		}
		if got := f.Read(0, most); !bytes.Equal(got, want) {
			t.Error("the file's own", x)
		}
		write(t, f, 0, strings.Repeat("v", 2*page))
		if !bytes.Equal(two, want[x[0]:x[0]+x[1]]) {
			t.Error("changed by a write", x)
		}
		write(t, f, 0, string(want))
	}
}

// scribble writes over all of b, its spare room included.
func scribble(b []byte) {
	b = b[:cap(b)]
	for i := range b {
		b[i] = '#'
	}
}

// The chapter's example.
func TestExamples(t *testing.T) {
	f := New()
	if n, e := f.Write(100, []byte("x"), 1); n != 1 || e != api.OK {
		t.Error(n, e)
	}
	if got := f.Read(99, 5); f.Size() != 101 || string(got) != "\x00\x78" {
		t.Error(f.Size(), got)
	}
}
