package value_test

import (
	"math/big"
	"regexp"
	"strconv"
	"strings"
	"unicode/utf8"

	"crossdock/api"
	"crossdock/value"
)

// modelPoint is what a canonical text with a power looks like.
var modelPoint = regexp.MustCompile(`^-?[1-9](\.[0-9]*[1-9])?e[+-][0-9]{2,}$`)

// modelCanon tells whether a number's text is canonical: figures of at most 64
// bits, or the shortest text of a float that has no such figures.
func modelCanon(s string) bool {
	if n, ok := new(big.Int).SetString(s, 10); ok && n.IsInt64() && (n.String() == s || s == "-0") {
		return true
	}
	f, err := strconv.ParseFloat(s, 64)
	if err != nil || !modelPoint.MatchString(s) || strconv.FormatFloat(f, 'e', -1, 64) != s {
		return false
	}
	exact, _ := new(big.Float).SetFloat64(f).Rat(nil)
	return !exact.IsInt() || !exact.Num().IsInt64()
}

// place is a value, and in how many lists and objects it stands.
type place struct {
	v      value.Value
	inside int
}

// modelPlaces is a value, and those within it, ahead of what is behind it: at
// most so many. It goes by a stack.
func modelPlaces(v value.Value, most int) []place {
	var all []place
	for stack := []place{{v, 0}}; len(stack) > 0 && len(all) < most; {
		top := stack[len(stack)-1]
		stack = stack[:len(stack)-1]
		all = append(all, top)
		for i := len(top.v.List) - 1; i >= 0; i-- {
			stack = append(stack, place{top.v.List[i], top.inside + 1})
		}
	}
	return all
}

// modelCheck is the first thing that is wrong, of the first value of which
// something is.
func modelCheck(v value.Value) error {
	for i, p := range modelPlaces(v, api.MaxItems+1) {
		list := p.v.Kind == value.List || p.v.Kind == value.Object
		switch {
		case p.v.Kind < 0 || p.v.Kind > 5:
			return api.ErrKind
		case list && p.inside > 31:
			return api.ErrDepth
		case i >= 4096:
			return api.ErrMany
		case modelMore(p.v):
			return api.ErrForm
		case p.v.Kind == value.Number && !modelCanon(p.v.Text):
			return api.ErrForm
		case p.v.Kind == value.Text && !utf8.ValidString(p.v.Text):
			return api.ErrText
		}
		if err := modelNames(p.v.Names); err != nil {
			return err
		}
	}
	return nil
}

// modelMore tells whether a value has something that its kind doesn't have: it
// goes by kinds, each with what it has.
func modelMore(v value.Value) bool {
	switch v.Kind {
	case value.Bool:
		v.True = false
	case value.Number, value.Text:
		v.Text = ""
	case value.List:
		v.List = nil
	case value.Object:
		if len(v.Names) != len(v.List) {
			return true
		}
		v.List, v.Names = nil, nil
	}
	return v.True || len(v.Text)+len(v.List)+len(v.Names) > 0
}

// modelNames holds each name against each one behind it.
func modelNames(names []string) error {
	twice, falls := false, false
	for i, a := range names {
		if !utf8.ValidString(a) {
			return api.ErrText
		}
		for _, b := range names[i+1:] {
			twice = twice || a == b
			falls = falls || strings.Compare(a, b) > 0
		}
	}
	switch {
	case twice:
		return api.ErrTwice
	case falls:
		return api.ErrRange
	}
	return nil
}

// modelSort is a value whose objects' names rise: pairs change places until
// none stands ahead of one that should be ahead of it.
func modelSort(v value.Value) value.Value {
	var own value.Value
	own.Kind, own.True, own.Text = v.Kind, v.True, v.Text
	own.Names = append(own.Names, v.Names...)
	for _, x := range v.List {
		own.List = append(own.List, modelSort(x))
	}
	if v.Kind != value.Object || len(v.Names) != len(v.List) {
		return own
	}
	for end := len(own.Names); end > 1; end-- {
		for i := 1; i < end; i++ {
			if own.Names[i-1] > own.Names[i] {
				own.Names[i-1], own.Names[i] = own.Names[i], own.Names[i-1]
				own.List[i-1], own.List[i] = own.List[i], own.List[i-1]
			}
		}
	}
	return own
}

// pair is a name and a value.
type pair struct {
	name string
	v    value.Value
}

// modelPairs is an object's pairs.
func modelPairs(v value.Value) []pair {
	var all []pair
	if v.Kind != value.Object {
		return nil
	}
	for i := 0; i < len(v.Names) && i < len(v.List); i++ {
		all = append(all, pair{v.Names[i], v.List[i]})
	}
	return all
}

// modelFind is the place of the first pair of a name, or -1.
func modelFind(v value.Value, name string) int {
	for i, p := range modelPairs(v) {
		if p.name == name {
			return i
		}
	}
	return -1
}

// modelSet is an object with another pair, and Check's error of that.
func modelSet(v value.Value, name string, x value.Value) (value.Value, error) {
	if v.Kind != value.Object {
		return value.Value{}, api.ErrKind
	}
	if len(v.Names) != len(v.List) {
		return value.Value{}, api.ErrForm
	}
	var pairs []pair
	done := false
	found := modelFind(v, name)
	for i, p := range modelPairs(v) {
		switch {
		case i == found:
			p.v, done = x, true
		case found < 0 && !done && p.name > name:
			pairs, done = append(pairs, pair{name, x}), true
		}
		pairs = append(pairs, p)
	}
	if !done {
		pairs = append(pairs, pair{name, x})
	}
	v.Names, v.List = nil, nil
	for _, p := range pairs {
		v.Names, v.List = append(v.Names, p.name), append(v.List, p.v)
	}
	if err := modelCheck(v); err != nil {
		return value.Value{}, err
	}
	return v, nil
}

// modelText is a value told as a text, all over.
func modelText(v value.Value) string {
	s := strconv.Itoa(v.Kind) + strconv.FormatBool(v.True) + strconv.Quote(v.Text) + "["
	for _, x := range v.List {
		s += modelText(x) + ","
	}
	s += "]{"
	for _, name := range v.Names {
		s += strconv.Quote(name) + ","
	}
	return s + "}"
}
