package utf

import (
	"strings"
	"unicode/utf8"

	"crossdock/api"
)

const (
	// signs and letters: what has an escape of a letter, and that letter. A
	// slash is read like that as well, but not written.
	signs   = "\"\\\b\f\n\r\t"
	letters = `"\bfnrt`
	// figures are those of numbers that are written.
	figures = "0123456789abcdef"
)

// The two halves in which escapes tell a sign from beyond on.
const (
	firstHalf  = 0xd800
	secondHalf = 0xdc00
	lastHalf   = 0xdfff
	beyond     = 0x10000
	halfBits   = 10
)

// quoted is a text's literal.
func quoted(s string, narrow bool) (string, error) {
	if !Valid(s) {
		return "", api.ErrText
	}
	b := []byte{'"'}
	for _, sign := range s {
		b = appendSign(b, sign, narrow)
	}
	return string(append(b, '"')), nil
}

// appendSign puts what a literal has for a sign behind other bytes.
func appendSign(b []byte, sign rune, narrow bool) []byte {
	if i := strings.IndexRune(signs, sign); i >= 0 {
		return append(b, '\\', letters[i])
	}
	if sign >= ' ' && (sign < 127 || !narrow) {
		return utf8.AppendRune(b, sign)
	}
	if sign < beyond {
		return appendNumber(b, sign)
	}
	part := sign - beyond
	b = appendNumber(b, firstHalf+part>>halfBits)
	return appendNumber(b, secondHalf+part&(1<<halfBits-1))
}

// appendNumber puts the escape of a number behind other bytes.
func appendNumber(b []byte, n rune) []byte {
	return append(b, '\\', 'u', figures[n>>12], figures[n>>8&15], figures[n>>4&15], figures[n&15])
}
