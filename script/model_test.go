package script

import (
	"fmt"
	"math/big"
	"regexp"
	"slices"
	"strconv"
	"strings"
	"testing"

	"purlieu/api"
)

// shapes are the document's calls: number, name, shape (- is none).
const shapes = `1 exit e; 2 fork -; 3 read fn; 4 write fB; 5 open gS; 6 close f; 7 wait xu; 8 link ST; 9 unlink S; 10 chdir S;
11 fchdir f; 12 mkdir S; 13 rmdir S; 14 getpid -; 15 getppid -; 16 kill xs; 17 dup f; 18 dup2 fx; 19 pipe k; 20 fcntl fxx;
21 ioctl fxx; 22 symlink YT; 23 readlink S; 24 rename ST; 25 lseek fiw; 26 ftruncate fo; 27 fstat f; 28 stat uS; 29 fsync f;
30 pread fno; 31 pwrite foB; 32 getdents fc; 33 openat dgS; 34 mkdirat dS; 35 unlinkat duS; 36 renameat ddST; 37 linkat dduST;
38 symlinkat dYT; 39 readlinkat dS; 40 fstatat duS; 41 socket k; 42 socketpair k; 43 bind fS; 44 bindat dfS; 45 listen fb;
46 connect fS; 47 connectat dfS; 48 accept fk; 49 shutdown fh; 50 send fBL; 51 recv fnm; 52 poll uP; 53 pdfork -; 54 pdgetpid f;
55 pdkill fs; 56 pdwait fu; 57 cap_enter -; 58 cap_getmode -; 59 cap_rights_limit fR; 60 cap_rights_get f; 61 cap_ioctls_limit fI;
62 cap_ioctls_get f; 63 cap_fcntls_limit fx; 64 cap_fcntls_get f`

// The document's words for a number, a text and a list, as forms.
const (
	numberForm = `(?:0|-?[1-9][0-9]*)`
	textForm   = `"(?:[ !#-\[\]-~]|\\["\\]|\\x(?:[01][0-9a-f]|7f|[89a-f][0-9a-f]))*"`
	listForm   = `\[(?:` + numberForm + `(?:,` + numberForm + `)*)?\]`
)

// formed is a call, and the form of the lines of its steps.
type formed struct {
	no          int
	name, shape string
	form        *regexp.Regexp
}

// all answers all calls, by their numbers less one.
var all = func() (l []formed) {
	for row := range strings.SplitSeq(shapes, ";") {
		w := strings.Fields(row)
		no, _ := strconv.Atoi(w[0])
		c := formed{no: no, name: w[1], shape: strings.TrimPrefix(w[2], "-")}
		form := `^(` + numberForm + `) ` + c.name
		for _, letter := range c.shape {
			form += ` (` + formOf(letter) + `)`
		}
		c.form = regexp.MustCompile(form + `$`)
		l = append(l, c)
	}
	return l
}()

var quoted = regexp.MustCompile(`^` + textForm + `$`)

// formOf answers the form of the word that stands for a letter.
func formOf(letter rune) string {
	switch {
	case strings.ContainsRune("SBYT", letter):
		return textForm
	case strings.ContainsRune("LRIP", letter):
		return listForm
	}
	return numberForm
}

// plainQuote writes a text as the document says, byte by byte.
func plainQuote(s string) string {
	text := ""
	for _, c := range []byte(s) {
		if c < 32 || c > 126 {
			text += fmt.Sprintf("\\x%02x", c)
		} else {
			text += strings.NewReplacer(`"`, `\"`, `\`, `\\`).Replace(string(rune(c)))
		}
	}
	return `"` + text + `"`
}

// plainText answers what a text stands for that has the form of a quoted one.
func plainText(s string) string {
	text, err := strconv.Unquote(s) // each of our texts is one of Go's, with the same meaning
	if err != nil {
		panic(s)
	}
	return text
}

// plainNumber answers what a number stands for that has the form of one, if it is not too great or too small.
func plainNumber(s string) (int, bool) {
	n, _ := new(big.Int).SetString(s, 10)
	return int(n.Int64()), n.IsInt64()
}

// plainList answers what a list stands for that has the form of one.
func plainList(s string) (l []int, ok bool) {
	ok = true
	for _, x := range regexp.MustCompile(numberForm).FindAllString(s, -1) {
		n, fits := plainNumber(x)
		l, ok = append(l, n), ok && fits
	}
	return l, ok
}

// plainParse reads a line by the forms of the document's words.
func plainParse(line string) (s api.Step, ok bool) {
	for _, c := range all {
		m := c.form.FindStringSubmatch(line)
		if m == nil {
			continue
		}
		s.Req.No = c.no
		s.Pid, ok = plainNumber(m[1])
		next := 0
		for i, letter := range c.shape {
			word, fits := m[i+2], true
			switch formOf(letter) {
			case textForm:
				if letter == 'T' {
					s.Req.T = plainText(word)
				} else {
					s.Req.S = plainText(word)
				}
			case listForm:
				s.Req.L, fits = plainList(word)
			default:
				s.Req.A[next], fits = plainNumber(word)
				next++
			}
			ok = ok && fits
		}
		break
	}
	if !ok {
		return api.Step{}, false
	}
	return s, true
}

// plainShow writes a step's line, if all of its request has a letter.
func plainShow(s api.Step) string {
	if s.Req.No < 1 || s.Req.No > len(all) {
		return ""
	}
	c := all[s.Req.No-1]
	line, numbers := fmt.Sprint(s.Pid, " ", c.name), strings.Trim(c.shape, "SBYTLRIP")
	for i := range s.Req.A {
		if i < len(numbers) {
			line += " " + fmt.Sprint(s.Req.A[i])
		} else if s.Req.A[i] != 0 {
			return ""
		}
	}
	if strings.ContainsAny(c.shape, "SBY") {
		line += " " + plainQuote(s.Req.S)
	} else if s.Req.S != "" {
		return ""
	}
	if strings.Contains(c.shape, "T") {
		line += " " + plainQuote(s.Req.T)
	} else if s.Req.T != "" {
		return ""
	}
	if strings.ContainsAny(c.shape, "LRIP") {
		line += " " + strings.ReplaceAll(fmt.Sprint(s.Req.L), " ", ",")
	} else if len(s.Req.L) != 0 {
		return ""
	}
	return line
}

// same tells whether two steps are alike; nil and empty lists are.
func same(a, b api.Step) bool {
	return a.Pid == b.Pid && a.Req.No == b.Req.No && a.Req.A == b.Req.A && a.Req.S == b.Req.S && a.Req.T == b.Req.T && slices.Equal(a.Req.L, b.Req.L)
}

// parsed holds what Parse and Script tell of a line against the model.
func parsed(t *testing.T, line string) bool {
	t.Helper()
	want, ok := plainParse(line)
	err := api.OK
	if !ok {
		err = api.EINVAL
	}
	if s, e := Parse(line); !same(s, want) || e != err {
		t.Errorf("Parse(%q): %v, %d; not %v", line, s, e, want)
	}
	return ok
}

// unquotes holds what Unquote tells of a text against the model.
func unquotes(t *testing.T, s string) bool {
	t.Helper()
	want, err := "", api.EINVAL
	ok := quoted.MatchString(s)
	if ok {
		want, err = plainText(s), api.OK
	}
	if text, e := Unquote(s); text != want || e != err {
		t.Errorf("Unquote(%q): %q, %d", s, text, e)
	}
	return ok
}

// dice answers numbers from a fixed rule.
func dice(seed uint64) func(n int) int {
	return func(n int) int {
		seed = seed*6364136223846793005 + 1442695040888963407
		return int(seed >> 33 % uint64(n))
	}
}

// often says what came too seldom for a test to be worth something.
func often(t *testing.T, count map[string]int, n int, l ...string) {
	t.Helper()
	for _, what := range l {
		if count[what] < n {
			t.Errorf("%d times in all: %s", count[what], what)
		}
	}
}
