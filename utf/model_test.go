package utf_test

import (
	"regexp"

	"crossdock/api"
)

// modelSign decodes the sign with which s begins, by its bits: how many bytes
// it has, or 0, if none begins there.
func modelSign(s string) (sign, size int) {
	if s == "" {
		return 0, 0
	}
	first := int(s[0])
	switch {
	case first>>7 == 0:
		sign, size = first, 1
	case first>>5 == 0b110:
		sign, size = first&0b11111, 2
	case first>>4 == 0b1110:
		sign, size = first&0b1111, 3
	case first>>3 == 0b11110:
		sign, size = first&0b111, 4
	default:
		return 0, 0
	}
	if len(s) < size {
		return 0, 0
	}
	for i := 1; i < size; i++ {
		if s[i]>>6 != 0b10 {
			return 0, 0
		}
		sign = sign<<6 | int(s[i]&0b111111)
	}
	least := []int{0, 0, 1 << 7, 1 << 11, 1 << 16}
	if sign < least[size] || sign >= 0xd800 && sign <= 0xdfff || sign > 0x10ffff {
		return 0, 0
	}
	return sign, size
}

// modelBad goes sign by sign.
func modelBad(s string) int {
	for at := 0; at < len(s); {
		_, size := modelSign(s[at:])
		if size == 0 {
			return at
		}
		at += size
	}
	return -1
}

// The model of Unquote looks for literals, and for the beginnings of such, in a
// text that has one sign for each byte.
const (
	hex  = `[0-9a-fA-F]`
	tail = `[\x{80}-\x{bf}]`

	plain = `[ !#-\[\]-\x7f]`
	many  = `[\x{c2}-\x{df}]` + tail +
		`|\x{e0}[\x{a0}-\x{bf}]` + tail + `|[\x{e1}-\x{ec}\x{ee}\x{ef}]` + tail + tail + `|\x{ed}[\x{80}-\x{9f}]` + tail +
		`|\x{f0}[\x{90}-\x{bf}]` + tail + tail + `|[\x{f1}-\x{f3}]` + tail + tail + tail + `|\x{f4}[\x{80}-\x{8f}]` + tail + tail
	manyBegun = `[\x{c2}-\x{f4}]|\x{e0}[\x{a0}-\x{bf}]|[\x{e1}-\x{ec}\x{ee}\x{ef}]` + tail + `|\x{ed}[\x{80}-\x{9f}]` +
		`|\x{f0}[\x{90}-\x{bf}]` + tail + `?|[\x{f1}-\x{f3}]` + tail + tail + `?|\x{f4}[\x{80}-\x{8f}]` + tail + `?`

	lettered  = `\\["\\/bfnrt]`
	numbered  = `\\u(?:[0-9a-cA-CefEF]` + hex + `|[dD][0-7])` + hex + hex
	firstHalf = `\\u[dD][89abAB]` + hex + hex
	lastHalf  = `\\u[dD][c-fC-F]` + hex + hex
	begun     = `\\(?:u` + hex + `{0,3})?`

	items = `^"(?:` + plain + `|` + many + `|` + lettered + `|` + numbered + `|` + firstHalf + lastHalf + `)*`
)

var (
	modelWhole  = regexp.MustCompile(items + `"`)
	modelBegun  = regexp.MustCompile(items + `(?:` + manyBegun + `|(?:` + firstHalf + `)?` + begun + `|` + firstHalf + `)?$`)
	modelSigns  = regexp.MustCompile(items + `(?:(?:` + manyBegun + `)?[\x{80}-\x{ff}]|(?:` + manyBegun + `)[\x00-\x7f])$`)
	modelHalves = regexp.MustCompile(items + `(?:` + lastHalf + `|` + firstHalf + `(?:` + begun + `)?[\x00-\x{ff}])$`)
)

// modelUnquote tells how many bytes the literal has with which s begins, or
// what is wrong: by the longest beginning of s with which some literal begins.
func modelUnquote(s string) (int, error) {
	var wide []rune
	for i := range len(s) {
		wide = append(wide, rune(s[i]))
	}
	for n := range len(wide) + 1 {
		switch part := string(wide[:n]); {
		case n == 0 || modelBegun.MatchString(part):
		case modelWhole.MatchString(part):
			return n, nil
		case modelSigns.MatchString(part) || modelHalves.MatchString(part):
			return 0, api.ErrText
		default:
			return 0, api.ErrForm
		}
	}
	return 0, api.ErrEnd
}
