package value

import (
	"slices"
	"strings"

	"crossdock/api"
	"crossdock/guard"
	"crossdock/num"
	"crossdock/utf"
)

// Check asks whether a value may be.
func Check(v Value) error {
	return caught(func() { new(checker).all(v, 0) })
}

// Sort is the value whose objects' names rise.
func Sort(v Value) (Value, error) {
	var sorted Value
	if err := caught(func() { sorted = new(checker).sorted(v, 0) }); err != nil {
		return Value{}, err
	}
	return sorted, nil
}

// caught is the code of what is thrown, as an error.
func caught(f func()) error {
	if err := guard.Try(f); err != nil {
		return guard.Code(err)
	}
	return nil
}

// checker counts the values that were looked at, and throws what is wrong.
type checker struct {
	seen int
}

// all looks at a value that stands in so many lists and objects, and at those
// within it.
func (c *checker) all(v Value, inside int) {
	c.look(v, inside)
	for _, x := range v.List {
		c.all(x, inside+1)
	}
}

// sorted looks at a value once its names rise, and at those within it: each is
// looked at ahead of the next one's sorting, so that it ends early where there
// are too many.
func (c *checker) sorted(v Value, inside int) Value {
	v = arranged(v)
	c.look(v, inside)
	for i, x := range v.List {
		v.List[i] = c.sorted(x, inside+1)
	}
	return v
}

// look throws what is wrong with a value itself.
func (c *checker) look(v Value, inside int) {
	c.seen++
	guard.Must(v.Kind >= Null && v.Kind <= Object, api.ErrKind, "")
	guard.Must(inside < api.MaxDepth || !holds(v), api.ErrDepth, "")
	guard.Must(c.seen <= api.MaxItems, api.ErrMany, "")
	guard.Must(fits(v), api.ErrForm, "")
	switch v.Kind {
	case Number:
		canon, err := num.Canon(v.Text)
		guard.Must(err == nil && canon == v.Text, api.ErrForm, "")
	case Text:
		guard.Must(utf.Valid(v.Text), api.ErrText, "")
	case Object:
		lookNames(v.Names)
	}
}

// lookNames throws what is wrong with an object's names.
func lookNames(names []string) {
	for _, name := range names {
		guard.Must(utf.Valid(name), api.ErrText, "")
	}
	sorted := slices.Sorted(slices.Values(names))
	guard.Must(len(slices.Compact(sorted)) == len(names), api.ErrTwice, "")
	guard.Must(slices.IsSorted(names), api.ErrRange, "")
}

// fits tells whether a value has nothing that its kind doesn't have, and an
// object as many names as values.
func fits(v Value) bool {
	names := 0
	if v.Kind == Object {
		names = len(v.List)
	}
	return (!v.True || v.Kind == Bool) &&
		(v.Text == "" || v.Kind == Number || v.Kind == Text) &&
		(len(v.List) == 0 || holds(v)) &&
		len(v.Names) == names
}

// arranged is a value with lists of its own; an object's names rise, if each of
// them has a value.
func arranged(v Value) Value {
	own := v
	own.Names, own.List = slices.Clone(v.Names), slices.Clone(v.List)
	if v.Kind != Object || len(v.Names) != len(v.List) {
		return own
	}
	order := make([]int, len(v.Names))
	for i := range order {
		order[i] = i
	}
	slices.SortStableFunc(order, func(a, b int) int { return strings.Compare(v.Names[a], v.Names[b]) })
	for i, k := range order {
		own.Names[i], own.List[i] = v.Names[k], v.List[k]
	}
	return own
}
