package script

import (
	"strconv"
	"strings"

	"purlieu/api"
)

// blank stands between two words.
const blank = " "

// What a letter of a shape stands for.
const (
	oneNumber = iota
	firstText
	secondText
	list
)

// standsFor tells what a letter of a shape stands for.
func standsFor(letter rune) int {
	switch letter {
	case 'S', 'B', 'Y':
		return firstText
	case 'T':
		return secondText
	case 'L', 'R', 'I', 'P':
		return list
	}
	return oneNumber
}

// number answers the number that a word is. As it has to be written in one way alone, it is written again and held against the word.
func number(word string) (int, bool) {
	n, _ := strconv.Atoi(word)
	if strconv.Itoa(n) != word {
		return 0, false
	}
	return n, true
}

// listed answers a list as a word.
func listed(l []int) string {
	numerals := make([]string, 0, len(l))
	for _, n := range l {
		numerals = append(numerals, strconv.Itoa(n))
	}
	return "[" + strings.Join(numerals, ",") + "]"
}

// numbers answers the list that a word is.
func numbers(word string) ([]int, bool) {
	inner, opens := strings.CutPrefix(word, "[")
	inner, shuts := strings.CutSuffix(inner, "]")
	if !opens || !shuts {
		return nil, false
	}
	if inner == "" {
		return nil, true
	}
	var l []int
	for numeral := range strings.SplitSeq(inner, ",") {
		n, ok := number(numeral)
		if !ok {
			return nil, false
		}
		l = append(l, n)
	}
	return l, true
}

// names tells each error that api has, with its name.
func names(yield func(api.Errno, string) bool) {
	for _, n := range [...]struct {
		err  api.Errno
		name string
	}{
		{api.OK, "OK"}, {api.EPERM, "EPERM"}, {api.ENOENT, "ENOENT"}, {api.ESRCH, "ESRCH"}, {api.EBADF, "EBADF"},
		{api.ECHILD, "ECHILD"}, {api.EBUSY, "EBUSY"}, {api.EEXIST, "EEXIST"}, {api.ENOTDIR, "ENOTDIR"}, {api.EISDIR, "EISDIR"},
		{api.EINVAL, "EINVAL"}, {api.ENFILE, "ENFILE"}, {api.EMFILE, "EMFILE"}, {api.ENOTTY, "ENOTTY"}, {api.EFBIG, "EFBIG"},
		{api.ENOSPC, "ENOSPC"}, {api.ESPIPE, "ESPIPE"}, {api.EMLINK, "EMLINK"}, {api.EPIPE, "EPIPE"}, {api.EAGAIN, "EAGAIN"},
		{api.ENOTSOCK, "ENOTSOCK"}, {api.EMSGSIZE, "EMSGSIZE"}, {api.EOPNOTSUPP, "EOPNOTSUPP"}, {api.EADDRINUSE, "EADDRINUSE"}, {api.EISCONN, "EISCONN"},
		{api.ENOTCONN, "ENOTCONN"}, {api.ECONNREFUSED, "ECONNREFUSED"}, {api.ELOOP, "ELOOP"}, {api.ENAMETOOLONG, "ENAMETOOLONG"}, {api.ENOTEMPTY, "ENOTEMPTY"},
		{api.ENOSYS, "ENOSYS"}, {api.ENOTCAPABLE, "ENOTCAPABLE"}, {api.ECAPMODE, "ECAPMODE"}, {api.EWAIT, "EWAIT"},
	} {
		if !yield(n.err, n.name) {
			return
		}
	}
}
