// Package rights is layer 1: sets of rights: see DOC.md and doc/01-rights.md.
package rights

import (
	"math/bits"
	"strings"

	"purlieu/api"
)

// The texts of the two sets that are not told by their names.
const (
	noneText = "none"
	allText  = "all"
)

// The raw words: how many rights each holds, and the bit that tells it from the other one.
const (
	firstRights  = 20
	secondRights = 12
	firstMark    = 1 << 57
	secondMark   = 1 << 58
)

// names are in the order of api's rights, so that a place here is a bit there.
var names = [32]string{
	"read", "write", "seek", "tell", "create", "fsync", "truncate", "lookup",
	"chdir", "fcntl", "stat", "readdir", "linkfrom", "linkto", "mkdir", "renamefrom",
	"renameto", "symlink", "readlink", "unlink", "accept", "bind", "connect", "listen",
	"shutdown", "bindat", "connectat", "event", "ioctl", "pdgetpid", "pdwait", "pdkill",
}

// Subset tells whether all of a are in b.
func Subset(a, b api.Rights) bool { return a&^b == 0 }

// And answers what is in both.
func And(a, b api.Rights) api.Rights { return a & b }

// Or answers what is in one of both.
func Or(a, b api.Rights) api.Rights { return a | b }

// Minus answers what is in a and not in b.
func Minus(a, b api.Rights) api.Rights { return a &^ b }

// Count answers how many rights a has.
func Count(a api.Rights) int { return bits.OnesCount32(uint32(a)) }

// Name answers the name of the right with the bit i.
func Name(i int) (string, bool) {
	if i < 0 || i >= len(names) {
		return "", false
	}
	return names[i], true
}

// Bit answers the right of that name; "none" and "all" are texts of sets, and name no right.
func Bit(name string) (api.Rights, bool) {
	for i, n := range names {
		if n == name {
			return right(i), true
		}
	}
	return 0, false
}

func right(i int) api.Rights { return 1 << i }

// Show answers the one text of a.
func Show(a api.Rights) string {
	switch a {
	case 0:
		return noneText
	case api.CapAll:
		return allText
	}
	var held []string
	for i, n := range names {
		if Subset(right(i), a) {
			held = append(held, n)
		}
	}
	return strings.Join(held, ",")
}

// Parse takes just what Show tells: each set has one text, so names must rise, and all of them together are no text.
func Parse(s string) (api.Rights, api.Errno) {
	switch s {
	case noneText:
		return 0, api.OK
	case allText:
		return api.CapAll, api.OK
	}
	a := api.Rights(0)
	for name := range strings.SplitSeq(s, ",") {
		r, ok := Bit(name)
		if !ok || r <= a { // a single bit is above a set just if it is above its highest one
			return 0, api.EINVAL
		}
		a |= r
	}
	if a == api.CapAll {
		return 0, api.EINVAL
	}
	return a, api.OK
}

// Put answers the raw words of a.
func Put(a api.Rights) [2]uint64 {
	w := uint64(a)
	return [2]uint64{w&(1<<firstRights-1) | firstMark, w>>firstRights | secondMark}
}

// Take reads the bits of rights alone and holds their raw words against l, so that no other bit slips through.
func Take(l []uint64) (api.Rights, api.Errno) {
	if len(l) != 2 {
		return 0, api.EINVAL
	}
	first, second := l[0]&(1<<firstRights-1), l[1]&(1<<secondRights-1)
	a := api.Rights(first | second<<firstRights)
	if Put(a) != [2]uint64{l[0], l[1]} {
		return 0, api.EINVAL
	}
	return a, api.OK
}
