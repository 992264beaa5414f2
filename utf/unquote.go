package utf

import (
	"strings"
	"unicode/utf8"

	"crossdock/api"
	"crossdock/guard"
)

// literal is the text of the literal with which s begins, and how many bytes
// that has.
func literal(s string) ([]byte, int) {
	var text []byte
	next := 0 // what is ahead of here was read with an escape
	for at, sign := range s {
		switch {
		case at < next:
		case at == 0:
			guard.Must(sign == '"', api.ErrForm, "")
		case sign == '"':
			return text, at + 1
		case sign == '\\':
			told, size := escape(s[at:])
			text, next = utf8.AppendRune(text, told), at+size
		default:
			mustStand(sign, s[at:])
			text = utf8.AppendRune(text, sign)
		}
	}
	guard.Throw(api.ErrEnd, "")
	return nil, 0
}

// mustStand throws a fault, if the sign with which s begins can't stand in a
// literal as it is.
func mustStand(sign rune, s string) {
	guard.Must(sign >= ' ', api.ErrForm, "")
	if wrong(sign, s) {
		guard.Must(utf8.FullRuneInString(s), api.ErrEnd, "")
		guard.Throw(api.ErrText, "")
	}
}

// escape is the sign of the escape with which s begins, and how many bytes
// that has.
func escape(s string) (rune, int) {
	guard.Must(len(s) > 1, api.ErrEnd, "")
	switch letter := s[1]; letter {
	case 'u':
		return numbered(s)
	case '/':
		return '/', 2
	default:
		i := strings.IndexByte(letters, letter)
		guard.Must(i >= 0, api.ErrForm, "")
		return rune(signs[i]), 2
	}
}

// numbered is the sign of the escape of a number, or of two of them, with which
// s begins, and how many bytes that has.
func numbered(s string) (rune, int) {
	n := number(s[2:], api.ErrForm)
	guard.Must(n < secondHalf || n > lastHalf, api.ErrText, "")
	if n < firstHalf || n > lastHalf {
		return n, 6
	}
	second := half(s[6:])
	return beyond + (n-firstHalf)<<halfBits + (second - secondHalf), 12
}

// half is the number of the second one of two escapes. Here whatever is there,
// and can't be, leaves the first one alone.
func half(s string) rune {
	guard.Must(len(s) > 0, api.ErrEnd, "")
	guard.Must(s[0] == '\\', api.ErrText, "")
	guard.Must(len(s) > 1, api.ErrEnd, "")
	guard.Must(s[1] == 'u', api.ErrText, "")
	n := number(s[2:], api.ErrText)
	guard.Must(n >= secondHalf && n <= lastHalf, api.ErrText, "")
	return n
}

// number is what the four figures say with which s begins.
func number(s string, wrong api.Errno) rune {
	n := rune(0)
	for i := range 4 {
		guard.Must(i < len(s), api.ErrEnd, "")
		f := figure(s[i])
		guard.Must(f >= 0, wrong, "")
		n = n<<4 | f
	}
	return n
}

// figure is what a figure stands for, or -1, if a byte is none.
func figure(c byte) rune {
	switch {
	case '0' <= c && c <= '9':
		return rune(c - '0')
	case 'a' <= c && c <= 'f':
		return rune(c-'a') + 10
	case 'A' <= c && c <= 'F':
		return rune(c-'A') + 10
	}
	return -1
}
