package script

import (
	"strings"

	"purlieu/api"
	"purlieu/calls"
)

// reader reads a line word by word; it is bad from the first word on that is none, and so is then the whole line.
type reader struct {
	rest string
	bad  bool
}

// need says what has to be so for the line to be one.
func (r *reader) need(so bool) { r.bad = r.bad || !so }

// blank reads what stands between two words.
func (r *reader) blank() {
	rest, ok := strings.CutPrefix(r.rest, blank)
	r.rest = rest
	r.need(ok)
}

// word reads up to the next blank. All words but texts are without one.
func (r *reader) word() string {
	word, _, _ := strings.Cut(r.rest, blank)
	r.rest = r.rest[len(word):]
	return word
}

// number reads a number.
func (r *reader) number() int {
	n, ok := number(r.word())
	r.need(ok)
	return n
}

// call reads a call's name.
func (r *reader) call() (int, api.Call) {
	no, ok := calls.Find(r.word())
	r.need(ok)
	c, _ := calls.Get(no)
	return no, c
}

// text reads a quoted text.
func (r *reader) text() string {
	text, rest, ok := unquoted(r.rest)
	r.rest = rest
	r.need(ok)
	return text
}

// list reads a list.
func (r *reader) list() []int {
	l, ok := numbers(r.word())
	r.need(ok)
	return l
}
