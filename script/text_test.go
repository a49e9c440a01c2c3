package script

import (
	"strings"
	"testing"

	"purlieu/api"
)

// P30.1: texts, spelt out, with how they are quoted.
func TestQuote(t *testing.T) {
	for _, x := range []struct{ text, want string }{
		{"", `""`}, {"a", `"a"`}, {"a/b", `"a/b"`}, {" ", `" "`}, {"a b", `"a b"`}, {"~", `"~"`}, {"!", `"!"`}, {"[1,2]", `"[1,2]"`}, {"#", `"#"`}, {"'", `"'"`}, {"`", "\"`\""},
		{`"`, `"\""`}, {`\`, `"\\"`}, {`\\`, `"\\\\"`}, {`""`, `"\"\""`}, {`\"`, `"\\\""`}, {`"\`, `"\"\\"`}, {`a"b`, `"a\"b"`}, {`"ab`, `"\"ab"`}, {`ab"`, `"ab\""`}, {`a\b`, `"a\\b"`}, {`\ab`, `"\\ab"`}, {`ab\`, `"ab\\"`}, {`\x41`, `"\\x41"`}, {`\n`, `"\\n"`},
		{"\x00", `"\x00"`}, {"\x01", `"\x01"`}, {"\t", `"\x09"`}, {"\n", `"\x0a"`}, {"\r", `"\x0d"`}, {"\x1f", `"\x1f"`}, {"\x7f", `"\x7f"`}, {"\x80", `"\x80"`}, {"\xab", `"\xab"`}, {"\xff", `"\xff"`},
		{"a\x00b", `"a\x00b"`}, {"\n\n", `"\x0a\x0a"`}, {"\"\n", `"\"\x0a"`}, {"\xff0", `"\xff0"`}, {"é", `"\xc3\xa9"`}, {"\u2028", `"\xe2\x80\xa8"`}, {"\ufffd", `"\xef\xbf\xbd"`},
	} {
		if s := Quote(x.text); s != x.want {
			t.Errorf("Quote(%q): %s, not %s", x.text, s, x.want)
		}
		if s, e := Unquote(x.want); s != x.text || e != api.OK {
			t.Errorf("Unquote(%s): %q, %d", x.want, s, e)
		}
	}
}

// P30.1: each byte, alone and between others, and each two.
func TestQuoteEveryByte(t *testing.T) {
	every := ""
	for a := range 256 {
		one := string([]byte{byte(a)})
		every += one
		for _, s := range []string{one, "a" + one, one + "b", "a" + one + "b", `\` + one, `"` + one, one + `\`, one + `"`, one + "0", one + "\x00"} {
			if q := Quote(s); q != plainQuote(s) {
				t.Errorf("Quote(%q): %s", s, q)
			}
		}
		for b := range 256 {
			s := string([]byte{byte(a), byte(b)})
			if q := Quote(s); q != plainQuote(s[:1])[:len(plainQuote(s[:1]))-1]+plainQuote(s[1:])[1:] {
				t.Fatalf("Quote(%q): %s", s, q)
			}
		}
	}
	if q := Quote(every); q != plainQuote(every) || len(q) != 256+2+3*(32+129)+2 {
		t.Errorf("Quote of every byte: %s", q)
	}
}

// P30.1: what is no quoted text, spelt out.
func TestUnquoteRefuses(t *testing.T) {
	for _, s := range []string{
		"", `"`, `"""`, `""""`, `a`, `"a`, `a"`, `"a"b`, `a"b"`, ` ""`, `"" `, `"a" `, "\"a\"\n", `""a`, `"a""b"`, `"a" "b"`, `''`, `'a'`, "``", `a`, ` `, `\`, `\"`, `\""`, `"\"`, `"\\\"`, `"a\"`, `"\`,
		`"\a"`, `"\n"`, `"\t"`, `"\0"`, `"\'"`, `"\/"`, `"\ "`, `"\X00"`, `"\u0041"`, `"\101"`,
		`"\x"`, `"\x0"`, `"\x0g"`, `"\xg0"`, `"\x 0"`, `"\x0 "`, `"\x00`, `"\x0`, `"\x`, `"\x-1"`, `"\x+1"`, `"\x0x"`, `"\x1"`, `"\x_1"`,
		`"\x0A"`, `"\xFF"`, `"\xfF"`, `"\xFf"`, `"\x0D"`, `"\x7F"`, `"\xAb"`,
		`"\x20"`, `"\x22"`, `"\x5c"`, `"\x5C"`, `"\x41"`, `"\x61"`, `"\x7e"`, `"\x30"`, `"\x21"`,
		"\"\x00\"", "\"\n\"", "\"\t\"", "\"\r\"", "\"\x1f\"", "\"\x7f\"", "\"\x80\"", "\"\xff\"", "\"é\"", "\"a\xffb\"", "\"\ufffd\"",
	} {
		if text, e := Unquote(s); text != "" || e != api.EINVAL {
			t.Errorf("Unquote(%q): %q, %d", s, text, e)
		}
	}
}

// P30.1: all short texts of bytes that mean something, between quotes and not.
func TestUnquoteShortTexts(t *testing.T) {
	t.Parallel()
	const bytes = "\"\\x01afFg \n\xff"
	right, wrong := 0, 0
	var grow func(s string, n int)
	grow = func(s string, n int) {
		for _, x := range []string{s, `"` + s + `"`} {
			if unquotes(t, x) {
				right++
			} else {
				wrong++
			}
		}
		for i := 0; n > 0 && i < len(bytes); i++ {
			grow(s+bytes[i:i+1], n-1)
		}
	}
	grow("", 5)
	if right < 40000 || wrong < 400000 {
		t.Error(right, wrong)
	}
}

// P30.1: the sign of every byte, with small and great digits: just those are read that Quote writes.
func TestUnquoteEverySign(t *testing.T) {
	t.Parallel()
	right := 0
	const hex = "0123456789abcdefABCDEFgGxX/:@` "
	for i := range hex {
		for j := range hex {
			for _, s := range []string{"", "a", `\\`} {
				if unquotes(t, `"`+s+`\x`+hex[i:i+1]+hex[j:j+1]+s+`"`) {
					right++
				}
			}
		}
	}
	if right != 3*(32+129) {
		t.Errorf("%d signs of two digits", right)
	}
	right = 0
	for a := range 256 {
		one := string([]byte{byte(a)})
		for _, s := range []string{`"` + one + `"`, `"\` + one + `"`, `"\x` + one + `0"`, `"\x0` + one + `"`, one + `"a"`, `"a"` + one, one} {
			if unquotes(t, s) {
				right++
			}
		}
	}
	if right != 93+2+10+16 {
		t.Errorf("%d bytes", right)
	}
}

// P30.1: quoted texts that are cut off at each place, or have something behind.
func TestUnquoteCutOff(t *testing.T) {
	for _, text := range []string{"", "a", "abc", `"`, `\`, `a"\b`, "\x00", "a\xffb\n", `\x41`, "\x7f\"\x80\\", `"""`, `\\\`} {
		s := Quote(text)
		for n := range len(s) {
			if got, e := Unquote(s[:n]); got != "" || e != api.EINVAL {
				t.Errorf("Unquote(%q): %q, %d", s[:n], got, e)
			}
		}
		for c := range 256 {
			if got, e := Unquote(s + string([]byte{byte(c)})); got != "" || e != api.EINVAL {
				t.Errorf("Unquote(%q and %q): %q, %d", s, byte(c), got, e)
			}
		}
	}
}

// P30.1, P30.5: long texts, of all bytes; one byte is another one, is not there, or is there twice.
func TestQuoteLongTexts(t *testing.T) {
	d, count := dice(30), map[string]int{}
	for range 3000 {
		b := make([]byte, d(40))
		for i := range b {
			if b[i] = byte(d(256)); d(3) == 0 {
				b[i] = `"\x0af `[d(7)]
			}
		}
		text, s := string(b), Quote(string(b))
		if s != plainQuote(text) {
			t.Errorf("Quote(%q): %s", text, s)
		}
		if got, e := Unquote(s); got != text || e != api.OK {
			t.Errorf("Unquote(%s): %q, %d", s, got, e)
		}
		at, other := d(len(s)), string([]byte{byte(d(256))})
		for how, x := range map[string]string{"another": s[:at] + other + s[at+1:], "gone": s[:at] + s[at+1:], "twice": s[:at] + s[at:at+1] + s[at:]} {
			if unquotes(t, x) {
				count[how+" right"]++
			} else {
				count[how+" wrong"]++
			}
		}
	}
	often(t, count, 100, "another right", "another wrong", "gone right", "gone wrong", "twice right", "twice wrong")
	long := strings.Repeat("\"\n\\a", 100000)
	if s, e := Unquote(Quote(long)); s != long || e != api.OK {
		t.Error("a long text")
	}
}
