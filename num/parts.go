package num

import (
	"strconv"
	"strings"

	"crossdock/api"
)

const (
	longest = 64   // bytes of a number's text
	far     = 1000 // where powers of ten stop: a text's figures can't make up for so many
)

// parts are what a number's text has: its figures, ahead of the point and
// behind it, are taken times ten to a power.
type parts struct {
	minus    bool
	ahead    string
	behind   string
	exponent int
}

// read is what a number's text has.
func read(s string) (parts, error) {
	if len(s) > longest {
		return parts{}, api.ErrLong
	}
	p, ok := split(s)
	if !ok {
		return parts{}, api.ErrForm
	}
	return p, nil
}

// split is what a text has, and whether it is a number's.
func split(s string) (parts, bool) {
	var p parts
	s, p.minus = strings.CutPrefix(s, "-")
	p.ahead, s = figures(s)
	if p.ahead == "" || p.ahead[0] == '0' && p.ahead != "0" {
		return parts{}, false
	}
	if rest, ok := strings.CutPrefix(s, "."); ok {
		p.behind, s = figures(rest)
		if p.behind == "" {
			return parts{}, false
		}
	}
	if s == "" {
		return p, true
	}
	var ok bool
	p.exponent, ok = power(s)
	return p, ok
}

// figures are those with which a text begins, and what is behind them.
func figures(s string) (head, rest string) {
	n := 0
	for n < len(s) && s[n] >= '0' && s[n] <= '9' {
		n++
	}
	return s[:n], s[n:]
}

// power is the power of ten that a text says, and whether it says one.
func power(s string) (int, bool) {
	if s[0] != 'e' && s[0] != 'E' {
		return 0, false
	}
	s, minus := strings.CutPrefix(s[1:], "-")
	if !minus {
		s = strings.TrimPrefix(s, "+")
	}
	list, rest := figures(s)
	if list == "" || rest != "" {
		return 0, false
	}
	n := 0
	for _, c := range []byte(list) {
		n = min(n*10+int(c-'0'), far)
	}
	if minus {
		n = -n
	}
	return n, true
}

// value is the whole number that a text says.
func (p parts) value() (int, error) {
	const most = 19 // figures of a whole number of 64 bits
	all := strings.TrimLeft(p.ahead+p.behind, "0")
	if all == "" {
		return 0, nil
	}
	kept := strings.TrimRight(all, "0")
	zeros := p.exponent - len(p.behind) + len(all) - len(kept)
	if zeros < 0 {
		return 0, api.ErrKind
	}
	if len(kept)+zeros > most {
		return 0, api.ErrRange
	}
	text := kept + strings.Repeat("0", zeros)
	if p.minus {
		text = "-" + text
	}
	n, err := strconv.ParseInt(text, 10, 64)
	if err != nil {
		return 0, api.ErrRange
	}
	return int(n), nil
}
