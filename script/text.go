package script

import "strings"

// quote stands at both ends of a text, and escape ahead of a byte that could be mistaken or not be seen.
const (
	quote  = '"'
	escape = '\\'
)

// digits are those of a byte that can't be seen; great ones there are none of.
const digits = "0123456789abcdef"

// sign answers how a byte stands in a quoted text.
func sign(c byte) string {
	switch {
	case c == quote, c == escape:
		return string([]byte{escape, c})
	case c < ' ', c > '~':
		return string([]byte{escape, 'x', digits[c>>4], digits[c&15]})
	}
	return string([]byte{c})
}

// unquoted reads the quoted text that s begins with: it answers that text and what is behind it.
func unquoted(s string) (text, rest string, ok bool) {
	if s == "" || s[0] != quote {
		return "", "", false
	}
	var b strings.Builder
read:
	for at := 1; at < len(s); {
		c := meant(s[at:])
		how := sign(c)
		switch {
		case s[at] == quote:
			return b.String(), s[at+1:], true
		case !strings.HasPrefix(s[at:], how):
			break read
		}
		b.WriteByte(c)
		at += len(how)
	}
	return "", "", false
}

// meant answers the byte whose sign s begins with; where it begins with none, any byte.
func meant(s string) byte {
	switch {
	case s[0] != escape:
		return s[0]
	case len(s) >= 4 && s[1] == 'x':
		high, low := strings.IndexByte(digits, s[2]), strings.IndexByte(digits, s[3])
		return byte(high<<4 | low)
	case len(s) >= 2:
		return s[1]
	}
	return 0
}
