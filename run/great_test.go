package run

import (
	"fmt"
	"slices"
	"strings"
	"testing"

	"purlieu/api"
)

// many answers n rows of the first process: the first ones of them come to what f says, all others to what is told beyond.
func many(n, most int, beyond string, f func(i int) (api.Req, string)) (l []row) {
	for i := range n {
		r, want := f(i)
		if i >= most {
			want = beyond
		}
		l = append(l, row{1, r, want})
	}
	return l
}

// val answers what is told of a number.
func val(n int) string {
	if n == 0 {
		return "done"
	}
	return fmt.Sprint("done ", n)
}

// fullest runs rows in a world with as much as there may be, and answers all there is behind them.
func fullest(t *testing.T, parts ...[]row) api.Dump {
	t.Helper()
	d := runs(t, most, slices.Concat(parts...))
	if passed := reached(map[string]int{}, most, d); passed != "" {
		t.Error(passed)
	}
	return d
}

// P25.3, P25.5: so many inodes, entries of a directory, links, symlinks gone through, bytes of a name, of a path, of a text, and no more.
func TestMostNames(t *testing.T) {
	t.Run("entries", func(t *testing.T) {
		d := fullest(t, many(66, 64, "done error 28", func(i int) (api.Req, string) { return says(mkdir, fmt.Sprint("d", i)), "done" }),
			[]row{{1, both(rename, "d1", "e"), "done"}, {1, both(rename, "d2", "d3/e"), "done"}, {1, both(rename, "d3/e", "f"), "done"}, {1, says(mkdir, "d1"), "done error 28"}})
		if len(d.Inodes) != 65 {
			t.Errorf("%d inodes", len(d.Inodes))
		}
	})
	t.Run("inodes", func(t *testing.T) {
		d := fullest(t, many(5, 5, "", func(i int) (api.Req, string) { return says(mkdir, fmt.Sprint("d", i)), "done" }),
			many(253, 250, "done error 28", func(i int) (api.Req, string) {
				return says(mkdir, fmt.Sprintf("d%d/%d", i%5, i)), "done"
			}),
			[]row{{1, says(open, "f", api.OCreat), "done error 28"}, {1, both(symlink, "x", "y"), "done error 28"}, {1, says(rmdir, "d1/1"), "done"}, {1, says(open, "f", api.OCreat), "done"}})
		if len(d.Inodes) != 256 || d.Next[4] != 258 {
			t.Errorf("%d inodes, %v", len(d.Inodes), d.Next)
		}
	})
	t.Run("links", func(t *testing.T) {
		fullest(t, []row{{1, says(open, "f", api.OCreat), "done"}},
			many(33, 31, "done error 31", func(i int) (api.Req, string) { return both(link, "f", fmt.Sprint("g", i)), "done" }),
			[]row{{1, says(stat, "f"), "done [1 0 32 0]"}, {1, says(unlink, "g3"), "done"}, {1, both(link, "f", "h"), "done"}})
	})
	t.Run("symlinks", func(t *testing.T) {
		fullest(t, []row{{1, says(open, "l0", api.OCreat), "done"}},
			many(9, 9, "", func(i int) (api.Req, string) { return both(symlink, fmt.Sprint("l", i), fmt.Sprint("l", i+1)), "done" }),
			[]row{{1, says(stat, "l8", 0), "done [1 0 1 0]"}, {1, says(stat, "l9", 0), "done error 62"}, {1, says(stat, "l9", 1), "done [3 2 1 0]"}, {1, both(symlink, "l", "l"), "done"}, {1, says(open, "l"), "done error 62"}})
	})
	t.Run("texts", func(t *testing.T) {
		x := func(n int) string { return strings.Repeat("x", n) }
		fullest(t, []row{
			{1, says(mkdir, x(32)), "done"}, {1, says(mkdir, x(33)), "done error 63"}, {1, says(mkdir, ""), "done error 2"}, {1, says(mkdir, "a\x00"), "done error 22"},
			{1, says(mkdir, strings.Repeat("/", 255)+"a"), "done"}, {1, says(mkdir, strings.Repeat("/", 256)+"b"), "done error 63"},
			{1, both(symlink, strings.Repeat("y", 256), "l"), "done"}, {1, both(symlink, strings.Repeat("y", 257), "m"), "done error 63"}, {1, both(symlink, "", "m"), "done error 2"},
			{1, says(stat, "l"), "done error 63"}, {1, says(stat, "l", 1), "done [3 256 1 0]"},
			{1, says(mkdir, x(4096)), "done error 63"}, {1, says(mkdir, x(4097)), "done error 22"},
		})
	})
}

// P25.3, P25.5: so many bytes of a file, so many blocks, and no more.
func TestMostBytes(t *testing.T) {
	text := strings.Repeat("abcdefgh", 32)
	file := api.OCreat | api.OBoth
	d := fullest(t, many(5, 5, "", func(i int) (api.Req, string) { return says(open, fmt.Sprint("f", i), file), val(i) }),
		[]row{
			{1, says(pwrite, "x", 4, 65535), "done 1"}, {1, says(pwrite, "x", 4, 65536), "done error 27"}, {1, says(pwrite, "xy", 4, 65535), "done error 27"}, {1, says(pwrite, "", 4, 1<<40), "done error 27"},
			{1, asks(fstat, 4), "done [1 65536 1 1]"}, {1, asks(cuts, 4, 65537), "done error 27"}, {1, asks(cuts, 4, 65536), "done"}, {1, asks(cuts, 4, 0), "done"}, {1, asks(fstat, 4), "done [1 0 1 0]"},
			{1, asks(lseek, 4, 65536), "done 65536"}, {1, asks(lseek, 4, 65537), "done error 22"}, {1, says(write, "x", 4), "done error 27"}, {1, asks(read, 4, 9), "done"}, {1, asks(lseek, 4), "done"},
		},
		many(1024, 1024, "", func(i int) (api.Req, string) { return says(write, text, i%4), "done 256" }),
		[]row{
			{1, says(write, "x", 4), "done error 28"}, {1, says(write, "x", 0), "done error 27"}, {1, says(pwrite, "x", 0, 9), "done 1"}, {1, asks(pread, 0, 3, 8), "done 3 axc"}, {1, asks(cuts, 3, 65535-63), "done"}, {1, says(write, text, 4), "done error 28"}, {1, says(write, text[:64], 4), "done 64"}, {1, says(write, "x", 4), "done error 28"},
		})
	n := 0
	for _, x := range d.Inodes {
		n += x.Blocks
	}
	if n != 4096 {
		t.Errorf("%d blocks", n)
	}
}

// P25.3, P25.5: so many descriptors, open files and processes, and no more.
func TestMostOpen(t *testing.T) {
	t.Run("descriptors", func(t *testing.T) {
		fullest(t, many(66, 64, "done error 24", func(i int) (api.Req, string) { return says(open, "."), val(i) }),
			[]row{{1, asks(dup, 3), "done error 24"}, {1, asks(pipe), "done error 24"}, {1, asks(sock), "done error 24"}, {1, asks(pdfork), "done error 24"}, {1, asks(shut, 63), "done"}, {1, asks(pair), "done error 24"}, {1, asks(dup2, 0, 63), "done 63"}, {1, asks(dup2, 0, 64), "done error 9"}})
	})
	t.Run("open files", func(t *testing.T) {
		rows := many(60, 60, "", func(i int) (api.Req, string) { return says(open, "."), val(i) })
		for pid := 2; pid < 6; pid++ {
			rows = append(rows, row{1, asks(fork), val(pid)})
			for i := range 55 {
				rows = append(rows, row{pid, asks(shut, i), "done"})
			}
			for i := range 55 {
				want := val(i)
				if (pid-2)*55+i >= 196 { // 60 there are already
					want = "done error 23"
				}
				rows = append(rows, row{pid, says(open, "."), want})
			}
		}
		d := fullest(t, rows, []row{{5, asks(dup, 1), "done 31"}, {5, asks(sock), "done error 23"}, {5, asks(pipe), "done error 23"}, {2, asks(shut, 1), "done"}, {5, asks(pair), "done error 23"}, {5, asks(sock), "done 32"}})
		if len(d.Files) != 256 {
			t.Errorf("%d open files", len(d.Files))
		}
	})
	t.Run("processes", func(t *testing.T) {
		fullest(t, many(65, 63, "done error 35", func(i int) (api.Req, string) { return asks(fork), val(i + 2) }),
			[]row{{7, asks(exit, 1), "done"}, {1, asks(pdfork), "done error 35"}, {1, asks(wait), "done 7 [1]"}, {1, asks(pdfork), "done"}, {65, asks(fork), "done error 35"}, {65, asks(getpid), "done 65"}, {66, anything, "idle"}})
	})
}

// P25.3, P25.5: so much in a pipe and in a socket, so many parts, descriptors passed at once, sockets that wait and pairs to poll, and no more.
func TestMostWaits(t *testing.T) {
	text := strings.Repeat("abcdefgh", 32)
	t.Run("pipe", func(t *testing.T) {
		d := fullest(t, []row{{1, asks(pipe, api.ONonblock), "done [0 1]"}},
			many(18, 16, "done error 35", func(i int) (api.Req, string) { return says(write, text, 1), "done 256" }),
			[]row{{1, asks(read, 0, 3), "done 3 abc"}, {1, says(write, text, 1), "done 3"}})
		if len(d.Pipes[0].B) != 4096 {
			t.Errorf("%d bytes", len(d.Pipes[0].B))
		}
	})
	t.Run("socket", func(t *testing.T) {
		fullest(t, []row{{1, asks(pair), "done [0 1]"}},
			many(18, 16, "parked", func(i int) (api.Req, string) { return says(send, text, 0), "done 256" }))
	})
	t.Run("parts", func(t *testing.T) {
		fullest(t, []row{{1, asks(pair, api.ONonblock), "done [0 1]"}},
			many(18, 16, "done error 35", func(i int) (api.Req, string) { return gives(0, 0, 1, 0, 1), "done 1" }),
			[]row{{1, gives(0), "done 1"}, {1, gives(0, 0, 0, 0, 0, 0), "done error 22"}, {1, asks(recv, 1, 9, 4), "done 1 x [2 3 4 5]"}, {1, gives(0, 1), "done 1"}})
	})
	t.Run("backlog", func(t *testing.T) {
		rows := []row{{1, asks(sock, api.ONonblock), "done"}, {1, says(bind, "b", 0), "done"}, {1, asks(listen, 0, 1000), "done"}}
		for i := range 10 {
			want := "done"
			if i >= 8 {
				want = "done error 61"
			}
			rows = append(rows, row{1, asks(sock), val(i + 1)}, row{1, says(connect, "b", i+1), want})
		}
		fullest(t, rows, []row{{1, asks(accept, 0), "done 11"}, {1, says(connect, "b", 9), "done"}, {1, says(connect, "b", 10), "done error 61"}})
	})
	t.Run("poll", func(t *testing.T) {
		eight := slices.Repeat([]int{1, 3}, 8)
		fullest(t, []row{{1, asks(pipe), "done [0 1]"}, {1, lists(poll, eight), "done 8 [2 2 2 2 2 2 2 2]"}, {1, lists(poll, append(eight, 1, 3)), "done error 22"}, {1, lists(poll, nil), "done"}})
	})
}
