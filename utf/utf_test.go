package utf_test

import (
	"encoding/json"
	"fmt"
	"math/rand"
	"strings"
	"testing"
	"unicode/utf8"

	"crossdock/api"
	"crossdock/utf"
)

// backslash is how each escape begins; a constant of its own, so that texts
// with many of them can be read.
const backslash = "\\"

// right asks for a text to be right.
func right(t *testing.T, s string) {
	t.Helper()
	if at := utf.Bad(s); at != -1 || !utf.Valid(s) {
		t.Errorf("%q: bad at %d, valid %v: want right", s, at, utf.Valid(s))
	}
}

// wrong asks for a text to be wrong at a place, and not to be quoted.
func wrong(t *testing.T, s string, at int) {
	t.Helper()
	if got := utf.Bad(s); got != at || utf.Valid(s) {
		t.Errorf("%q: bad at %d, valid %v: want bad at %d", s, got, utf.Valid(s), at)
	}
	if x, err := utf.Quote(s); x != "" || err != api.ErrText {
		t.Errorf("%q: quoted %q, %v", s, x, err)
	}
	if x, err := utf.Narrow(s); x != "" || err != api.ErrText {
		t.Errorf("%q: narrow %q, %v", s, x, err)
	}
}

// quoted asks for a text's literals, and for the text of each of them.
func quoted(t *testing.T, s, plain, narrow string) {
	t.Helper()
	if x, err := utf.Quote(s); x != plain || err != nil {
		t.Errorf("%q: quoted %q, %v: want %q", s, x, err, plain)
	}
	if x, err := utf.Narrow(s); x != narrow || err != nil {
		t.Errorf("%q: narrow %q, %v: want %q", s, x, err, narrow)
	}
	unquoted(t, plain, s, len(plain))
	unquoted(t, narrow, s, len(narrow))
}

// unquoted asks for a literal's text, and for its size.
func unquoted(t *testing.T, s, text string, size int) {
	t.Helper()
	if x, n, err := utf.Unquote(s); x != text || n != size || err != nil {
		t.Errorf("%q: %q of %d, %v: want %q of %d", s, x, n, err, text, size)
	}
}

// refused asks for an error, beside which there must be nothing.
func refused(t *testing.T, s string, want error) {
	t.Helper()
	if x, n, err := utf.Unquote(s); x != "" || n != 0 || err != want {
		t.Errorf("%q: %q of %d, %v: want %v", s, x, n, err, want)
	}
}

// asModel asks for what the model answers, whatever it is, and the library for
// the text of what is answered.
func asModel(t *testing.T, s string) {
	t.Helper()
	size, err := modelUnquote(s)
	if err != nil {
		refused(t, s, err)
		return
	}
	var text string
	if err := json.Unmarshal([]byte(s[:size]), &text); err != nil {
		t.Fatal(s[:size], err)
	}
	unquoted(t, s, text, size)
}

// number is the escape of a number.
func number(n int) string {
	return fmt.Sprintf(backslash+"u%04x", n)
}

// capital is the escape of a number, with capital figures.
func capital(n int) string {
	return fmt.Sprintf(backslash+"u%04X", n)
}

// P11.1: the chapter's example.
func TestExample(t *testing.T) {
	quoted(t, "a\n\u00e9", "\"a"+backslash+"n\u00e9\"", `"a`+backslash+`n`+number(0xe9)+`"`)
}

// P11.1: the places of wrong bytes: signs by too many bytes, halves, beyond the
// last one, cut ones, and tails without a head.
func TestBad(t *testing.T) {
	for _, s := range []string{"", "a", "\x00", "\x7f", "\u0080", "\u07ff", "\u0800", "\ud7ff", "\ue000", "\uffff", "\U00010000", "\U0010ffff", "\ufffd", "a\ufffdb", "\ufeff", "a\u00e9\u20ac\U0001f600z"} {
		right(t, s)
	}
	for _, bad := range []string{
		"\x80", "\xbf", "\xc0", "\xc0\x80", "\xc1\xbf", "\xc2", "\xc2\x7f", "\xc2\xc0", "\xdf",
		"\xe0", "\xe0\x80\x80", "\xe0\x9f\xbf", "\xe0\xa0", "\xe1\x80", "\xe1\x80\x7f", "\xef\xbf\xc0", "\xef\xbf",
		"\xed\xa0\x80", "\xed\xaf\xbf", "\xed\xb0\x80", "\xed\xbf\xbf",
		"\xf0\x80\x80\x80", "\xf0\x8f\xbf\xbf", "\xf0\x90\x80", "\xf3\xbf\xbf\x7f", "\xf4\x90\x80\x80", "\xf4\x8f\xbf", "\xf5\x80\x80\x80", "\xf7\xbf\xbf\xbf",
		"\xf8\x88\x80\x80\x80", "\xfc\x84\x80\x80\x80\x80", "\xfe", "\xff",
	} {
		for _, ahead := range []string{"", "a", "\u00e9", "\ufffd", "\"\n", strings.Repeat("\U0001f600", 50)} {
			for _, behind := range []string{"", "a", "\ufffd", "\xff", "\u20ac"} {
				wrong(t, ahead+bad+behind, len(ahead))
			}
		}
	}
}

// P11.1: all texts of up to four bytes that stand at an edge, and all of two
// bytes, against a model that goes by their bits.
func TestBadAsModel(t *testing.T) {
	edges := "\x00\"\x7f\x80\x8f\x90\x9f\xa0\xbf\xc0\xc1\xc2\xdf\xe0\xe1\xec\xed\xee\xef\xf0\xf1\xf3\xf4\xf5\xf8\xff"
	check := func(b []byte) {
		s := string(b)
		at := modelBad(s)
		if got := utf.Bad(s); got != at || utf.Valid(s) != (at < 0) || (at < 0) != utf8.ValidString(s) {
			t.Errorf("%q: bad at %d, valid %v: want %d", s, got, utf.Valid(s), at)
		}
	}
	for i := range len(edges) {
		for j := range len(edges) {
			check([]byte{edges[i], edges[j]})
			for k := range len(edges) {
				check([]byte{edges[i], edges[j], edges[k]})
				for l := range len(edges) {
					check([]byte{edges[i], edges[j], edges[k], edges[l]})
				}
			}
		}
	}
	for i := range 1 << 16 {
		check([]byte{byte(i >> 8), byte(i)})
		check([]byte{0xe0 | byte(i>>12), 0x80 | byte(i>>6&63), 0x80 | byte(i&63)})
	}
}

// P11.1: what has which escape in a plain and in a narrow literal: each sign
// below 128.
func TestQuoteOneByte(t *testing.T) {
	letters := map[rune]string{'"': `"`, '\\': backslash, 8: "b", 12: "f", 10: "n", 13: "r", 9: "t"}
	for r := range rune(128) {
		plain, narrow := string(r), string(r)
		if letter, ok := letters[r]; ok {
			plain = backslash + letter
			narrow = plain
		} else if r < 32 {
			plain = number(int(r))
			narrow = plain
		} else if r == 127 {
			narrow = number(127)
		}
		quoted(t, string(r), `"`+plain+`"`, `"`+narrow+`"`)
	}
	quoted(t, "", `""`, `""`)
	quoted(t, "a/b", `"a/b"`, `"a/b"`)
}

// P11.1, P11.2: each sign there is, quoted and unquoted.
func TestEachSign(t *testing.T) {
	for r := rune(128); r <= utf8.MaxRune; r++ {
		if r == 0xd800 {
			r = 0xe000
		}
		s := string(r)
		narrow := number(int(r))
		if r > 0xffff {
			narrow = number(0xd800+int(r-0x10000)/0x400) + number(0xdc00+int(r-0x10000)%0x400)
		}
		plain, err := utf.Quote(s)
		if plain != `"`+s+`"` || err != nil {
			t.Fatalf("%x: %q, %v", r, plain, err)
		}
		got, err := utf.Narrow(s)
		if got != `"`+narrow+`"` || err != nil {
			t.Fatalf("%x: %q, %v", r, got, err)
		}
		if x, n, err := utf.Unquote(plain); x != s || n != len(plain) || err != nil {
			t.Fatalf("%x: %q, %d, %v", r, x, n, err)
		}
		if x, n, err := utf.Unquote(got); x != s || n != len(got) || err != nil {
			t.Fatalf("%x: %q, %d, %v", r, x, n, err)
		}
	}
}

// P11.2: texts of any signs come back from both their literals, and the narrow
// ones have bytes from 32 to 126 alone; the library reads both alike.
func TestThereAndBack(t *testing.T) {
	draw := rand.New(rand.NewSource(11))
	for range 20000 {
		s := drawnRight(draw)
		for i, quote := range []func(string) (string, error){utf.Quote, utf.Narrow} {
			x, err := quote(s)
			if err != nil {
				t.Fatalf("%q: %v", s, err)
			}
			for at := range len(x) {
				if x[at] < 32 || i == 1 && x[at] > 126 {
					t.Fatalf("%q: %q", s, x)
				}
			}
			unquoted(t, x, s, len(x))
			unquoted(t, x+"\xff\"", s, len(x))
			var library string
			if err := json.Unmarshal([]byte(x), &library); err != nil || library != s {
				t.Fatalf("%q: %q, %v", s, x, err)
			}
		}
	}
}

// P11.1: what is read without being written: a slash's escape, escapes of signs
// that need none, capital figures; what is behind a literal isn't looked at.
func TestUnquote(t *testing.T) {
	unquoted(t, `"`+backslash+`/"`, "/", 4)
	unquoted(t, `"/"`, "/", 3)
	unquoted(t, `"\"\\\/\b\f\n\r\t"`, "\"\\/\b\f\n\r\t", 18)
	unquoted(t, `"`+number(0)+number(0x41)+number(0x22)+number(0x5c)+`"`, "\x00A\"\\", 26)
	unquoted(t, `"`+number(0xabcd)+capital(0xabcd)+backslash+`uaBcD"`, "\uabcd\uabcd\uabcd", 20)
	unquoted(t, `"`+number(0xd7ff)+number(0xe000)+number(0xffff)+number(0xfffd)+`"`, "\ud7ff\ue000\uffff\ufffd", 26)
	unquoted(t, "\"\x7f\u0080\ufffd\U0010ffff\"", "\x7f\u0080\ufffd\U0010ffff", 12)
	unquoted(t, `"`+number(0xd800)+number(0xdc00)+capital(0xdbff)+capital(0xdfff)+`"`, "\U00010000\U0010ffff", 26)
	unquoted(t, `"`+number(0xd83d)+capital(0xde00)+number(0x41)+`4"`, "\U0001f600A4", 21)
	for _, behind := range []string{`"`, `""`, "x", "\x00", "\xff", "\xc3", backslash, `,"a":1}`} {
		unquoted(t, `""`+behind, "", 2)
		unquoted(t, "\"\u00e9a\""+behind, "\u00e9a", 5)
	}
	long := strings.Repeat("\u00e9\U0001f600\n", 30000)
	for _, quote := range []func(string) (string, error){utf.Quote, utf.Narrow} {
		x, err := quote(long)
		if err != nil {
			t.Fatal(err)
		}
		if s, n, err := utf.Unquote(x); s != long || n != len(x) || err != nil {
			t.Fatal(n, err)
		}
	}
}

// P11.1: each number of an escape alone, its figures small and capital: the
// first half's needs another one, the second half's can't stand.
func TestEachNumber(t *testing.T) {
	for n := range 1 << 16 {
		for _, e := range []string{number(n), capital(n)} {
			switch {
			case n < 0xd800 || n > 0xdfff:
				unquoted(t, `"`+e+`"`, string(rune(n)), 8)
				refused(t, `"`+e, api.ErrEnd)
			case n < 0xdc00:
				refused(t, `"`+e+`"`, api.ErrText)
				refused(t, `"`+e, api.ErrEnd)
			default:
				refused(t, `"`+e+`"`, api.ErrText)
				refused(t, `"`+e, api.ErrText)
			}
		}
	}
}

// P11.1: pairs of escapes: the edges of both halves, and each second number.
func TestPairs(t *testing.T) {
	for _, first := range []int{0xd800, 0xd801, 0xd83d, 0xdbfe, 0xdbff} {
		for second := range 1 << 16 {
			s := `"` + number(first) + number(second) + `"`
			if second < 0xdc00 || second > 0xdfff {
				refused(t, s, api.ErrText)
				continue
			}
			unquoted(t, s, string(rune(0x10000+(first-0xd800)*0x400+second-0xdc00)), 14)
		}
	}
	refused(t, `"`+number(0xdc00)+number(0xd800)+`"`, api.ErrText)
	refused(t, `"`+number(0xd800)+number(0xd800)+number(0xdc00)+`"`, api.ErrText)
	refused(t, `"`+number(0xd800)+number(0xdc00)+number(0xdc00)+`"`, api.ErrText)
}

// P11.1: a literal that is cut ends too early wherever that is, and is whole
// just with its last quote.
func TestCut(t *testing.T) {
	whole := "\"a\u00e9\u20ac\U0001f600\x7f" + `\"\\\/\b\f\n\r\t` + number(0xe9) + capital(0xfffd) + number(0xd83d) + number(0xde00) + "\u0800\ud7ff\U00010000\U0010ffff\ufffd\""
	for n := range len(whole) {
		refused(t, whole[:n], api.ErrEnd)
	}
	if _, n, err := utf.Unquote(whole); n != len(whole) || err != nil {
		t.Error(n, err)
	}
}

// P11.1: what a literal doesn't begin with, of all bytes, and texts.
func TestNoQuote(t *testing.T) {
	for c := range 256 {
		if c == '"' {
			continue
		}
		for _, behind := range []string{"", `"`, `""`, "\xff"} {
			refused(t, string([]byte{byte(c)})+behind, api.ErrForm)
		}
	}
	refused(t, "", api.ErrEnd)
	refused(t, `"`, api.ErrEnd)
	refused(t, "\u201ca\u201d", api.ErrForm)
}

// P11.1: each byte within a literal, behind a backslash, as each figure, and
// within and behind the first escape of a pair.
func TestEachByte(t *testing.T) {
	high := number(0xd83d)
	for c := range 256 {
		b := string([]byte{byte(c)})
		for _, ahead := range []string{
			"", "a", "\u00e9", "\xe2\x82", "\xf0\x9f", "\xf0\x9f\x98", "\xed", "\xe0", "\xf0", "\xf4", backslash, backslash + "u", backslash + "u0", backslash + "u00", backslash + "u00e",
			backslash + "ude0", high, high + backslash, high + backslash + "u", high + backslash + "ud", high + backslash + "ude", high + backslash + "ude0", high + backslash + "u004",
		} {
			for _, behind := range []string{"", `"`, "\x80\"", `0"`, `000"`, "\n\xff", "\xff\n"} {
				asModel(t, `"`+ahead+b+behind)
			}
		}
	}
}

// P11.1: what is wrong first is told, read from the left.
func TestFirstWrong(t *testing.T) {
	wrongs := []struct {
		text string
		err  error
	}{
		{"\x00", api.ErrForm}, {"\x1f", api.ErrForm}, {"\n", api.ErrForm}, {backslash + "x", api.ErrForm}, {backslash + "U0041", api.ErrForm},
		{backslash + "u00g0", api.ErrForm}, {backslash + "u\"", api.ErrForm}, {backslash + "ude0g", api.ErrForm}, {backslash + "\xff", api.ErrForm}, {backslash + "u\xff", api.ErrForm}, {backslash + "'", api.ErrForm},
		{"\xff", api.ErrText}, {"\xc3\x00", api.ErrText}, {"\xc3\"", api.ErrText}, {"\xed\xa0", api.ErrText}, {"\xc0", api.ErrText}, {"\xf4\x90", api.ErrText}, {"\xe2\x82" + backslash, api.ErrText},
		{number(0xdc00), api.ErrText}, {number(0xd800) + "\n", api.ErrText}, {number(0xd800) + "\xff", api.ErrText}, {number(0xd800) + backslash + "x", api.ErrText}, {number(0xd800) + backslash + "u\"", api.ErrText},
		{number(0xd800) + backslash + "udg", api.ErrText}, {number(0xdbff) + number(0xdbff), api.ErrText}, {number(0xd800) + backslash + "u00g", api.ErrText}, {number(0xd800) + backslash + "n", api.ErrText},
	}
	for _, first := range wrongs {
		for _, ahead := range []string{"", "a\u00e9", backslash + "n", number(0xd83d) + number(0xde00)} {
			refused(t, `"`+ahead+first.text, first.err)
			refused(t, `"`+ahead+first.text+`"`, first.err)
			for _, second := range wrongs {
				refused(t, `"`+ahead+first.text+second.text+`"`, first.err)
			}
		}
	}
	refused(t, `"`+number(0xd800)+backslash+"u00", api.ErrEnd)
	refused(t, `"`+number(0xd800)+backslash+"u004", api.ErrEnd)
	refused(t, `"`+number(0xd800)+backslash+"u0041", api.ErrText)
}

// drawnRight is a right text of any signs.
func drawnRight(draw *rand.Rand) string {
	var b strings.Builder
	for range draw.Intn(12) {
		switch draw.Intn(5) {
		case 0:
			b.WriteRune(rune(draw.Intn(32)))
		case 1:
			b.WriteByte("\"\\/u0\x7f"[draw.Intn(6)])
		case 2:
			b.WriteRune(rune(0x80 + draw.Intn(0xd780)))
		case 3:
			b.WriteRune(rune(0xe000 + draw.Intn(0x2000)))
		default:
			b.WriteRune(rune(0x10000 + draw.Intn(0x100000)))
		}
	}
	return b.String()
}

// P11.1: pieces of literals, right ones and wrong ones, in any order.
func TestDrawn(t *testing.T) {
	pieces := []string{
		`"`, `"`, "a", "\u00e9", "\u20ac", "\U0001f600", "\n", "\x1f", "\xff", "\xc3", "\xe2\x82", "\xf0\x9f", "\x80", "\xed\xa0", "\xa0",
		backslash, backslash + "n", backslash + "/", backslash + "x", backslash + "u", "00", "d8", "de", "DC", "3D", "g",
		number(0x41), number(0xd83d), capital(0xde00), number(0xd800), number(0xdfff),
	}
	draw := rand.New(rand.NewSource(12))
	for range 60000 {
		s := `"`
		for range draw.Intn(7) {
			s += pieces[draw.Intn(len(pieces))]
		}
		asModel(t, s)
		if at := modelBad(s); utf.Bad(s) != at {
			t.Errorf("%q: bad at %d: want %d", s, utf.Bad(s), at)
		}
	}
}
