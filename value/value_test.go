package value_test

import (
	"math/rand"
	"slices"
	"strconv"
	"strings"
	"testing"

	"crossdock/api"
	"crossdock/value"
)

func null() value.Value { return value.Value{} }

func truth(is bool) value.Value { return value.Value{Kind: value.Bool, True: is} }

func number(s string) value.Value { return value.Value{Kind: value.Number, Text: s} }

func text(s string) value.Value { return value.Value{Kind: value.Text, Text: s} }

func list(all ...value.Value) value.Value { return value.Value{Kind: value.List, List: all} }

func object(names []string, all ...value.Value) value.Value {
	return value.Value{Kind: value.Object, Names: names, List: all}
}

// field is an object of one name.
func field(name string, v value.Value) value.Value { return object([]string{name}, v) }

// nested is a value within so many lists, or objects, or each in turn.
func nested(v value.Value, n int, way string) value.Value {
	for i := range n {
		if way == "lists" || way == "both" && i%2 == 0 {
			v = list(v)
		} else {
			v = field("a", v)
		}
	}
	return v
}

// nulls is a list of so many.
func nulls(n int) value.Value { return list(make([]value.Value, n)...) }

// doubled is a list of a value twice, and of that twice, and so on: a few lists
// that come to more values than could be looked at.
func doubled(v value.Value, n int) value.Value {
	for range n {
		v = list(v, v)
	}
	return v
}

// words are the texts that a value's list of names has, with spare room.
func words(all ...string) []string { return append(make([]string, 0, len(all)+3), all...) }

// roomy is a value apart whose lists have spare room, in which something
// stands.
func roomy(v value.Value) value.Value {
	own := v
	if v.Names != nil {
		own.Names = append(append(make([]string, 0, len(v.Names)+2), v.Names...), "spare", "spare")[:len(v.Names)]
	}
	if v.List != nil {
		own.List = make([]value.Value, 0, len(v.List)+2)
		for _, x := range v.List {
			own.List = append(own.List, roomy(x))
		}
		own.List = append(own.List, text("spare"), text("spare"))[:len(v.List)]
	}
	return own
}

// memory is what a value's lists consist of, spare room included.
type memory struct {
	names  map[*string]bool
	values map[*value.Value]bool
}

// add tells whether none of a value's memory was there already.
func (m memory) add(v value.Value) bool {
	apart := true
	names, values := v.Names[:cap(v.Names)], v.List[:cap(v.List)]
	for i := range names {
		apart = apart && !m.names[&names[i]]
		m.names[&names[i]] = true
	}
	for i := range values {
		apart = apart && !m.values[&values[i]]
		m.values[&values[i]] = true
	}
	for _, x := range v.List {
		apart = m.add(x) && apart
	}
	return apart
}

// apart asks for an answer that shares nothing with what was handed in, and no
// two of its lists anything with one another.
func apart(t *testing.T, answer value.Value, handed ...value.Value) {
	t.Helper()
	m := memory{map[*string]bool{}, map[*value.Value]bool{}}
	for _, v := range handed {
		m.add(v) // these may share
	}
	if !m.add(answer) {
		t.Errorf("%s: shared", modelText(answer))
	}
}

// unchanged is a function that asks whether some values are as they were, spare
// room included.
func unchanged(t *testing.T, handed ...value.Value) func() {
	t.Helper()
	all := func() string {
		s := ""
		for _, v := range handed {
			s += whole(v)
		}
		return s
	}
	before := all()
	return func() {
		t.Helper()
		if after := all(); after != before {
			t.Errorf("changed: %s: %s", before, after)
		}
	}
}

// whole is a value told as a text, with what stands in its spare room.
func whole(v value.Value) string {
	s := modelText(v) + strings.Join(v.Names[:cap(v.Names)], ",")
	for i, x := range v.List[:cap(v.List)] {
		if i < len(v.List) {
			s += whole(x)
		} else {
			s += modelText(x)
		}
	}
	return s
}

// same asks for a value, all over.
func same(t *testing.T, got, want value.Value) {
	t.Helper()
	if a, b := modelText(got), modelText(want); a != b {
		t.Errorf("%s: want %s", a, b)
	}
}

// checked asks for what Check and Sort answer of a value.
func checked(t *testing.T, v value.Value, want error) {
	t.Helper()
	if err := value.Check(v); err != want {
		t.Errorf("%s: %v: want %v", short(v), err, want)
	}
	if want != nil && want != api.ErrRange {
		refusedSort(t, v, want)
	}
}

// refusedSort asks for Sort's error, beside which there must be nothing.
func refusedSort(t *testing.T, v value.Value, want error) {
	t.Helper()
	got, err := value.Sort(v)
	if err != want {
		t.Errorf("%s: sort: %v: want %v", short(v), err, want)
	}
	same(t, got, null())
}

// short is a value told as a text, cut.
func short(v value.Value) string {
	places := modelPlaces(v, 20)
	if len(places) == 20 {
		return "a value of kind " + strconv.Itoa(v.Kind) + ", with many"
	}
	return modelText(v)
}

// asModel asks for what the model answers of a value: whether it may be, and
// its sorted one.
func asModel(t *testing.T, v value.Value) {
	t.Helper()
	kept := unchanged(t, v)
	if err, want := value.Check(v), modelCheck(v); err != want {
		t.Errorf("%s: %v: want %v", short(v), err, want)
	}
	sorted := modelSort(v)
	want := modelCheck(sorted)
	if want != nil {
		refusedSort(t, v, want)
	} else if got, err := value.Sort(v); err != nil {
		t.Errorf("%s: sort: %v", short(v), err)
	} else {
		same(t, got, sorted)
		apart(t, got, v)
		ownSorted(t, got)
	}
	kept()
}

// ownSorted asks a sorted value to be its own sorted one, and to be allowed.
func ownSorted(t *testing.T, v value.Value) {
	t.Helper()
	if err := value.Check(v); err != nil {
		t.Errorf("%s: %v", short(v), err)
	}
	got, err := value.Sort(v)
	if err != nil || !value.Same(got, v) {
		t.Errorf("%s: sorted: %s, %v", short(v), short(got), err)
	}
}

// P13.1: the chapter's example.
func TestExample(t *testing.T) {
	got, err := value.Sort(object([]string{"b", "a"}, number("1"), number("2")))
	if err != nil {
		t.Fatal(err)
	}
	same(t, got, object([]string{"a", "b"}, number("2"), number("1")))
}

// P13.1: the kinds, and the zero value, which is null.
func TestKinds(t *testing.T) {
	for i, kind := range []int{value.Null, value.Bool, value.Number, value.Text, value.List, value.Object} {
		if kind != i {
			t.Errorf("kind %d is %d", i, kind)
		}
	}
	for _, v := range []value.Value{null(), truth(false), truth(true), number("0"), text(""), list(), object(nil)} {
		checked(t, v, nil)
		asModel(t, v)
	}
	for _, kind := range []int{-1 << 63, -2, -1, 6, 7, 256, 1 << 32, 1<<63 - 1} {
		checked(t, value.Value{Kind: kind}, api.ErrKind)
		checked(t, list(value.Value{Kind: kind}), api.ErrKind)
	}
}

// P13.1: each kind with each thing that it has, or doesn't have.
func TestWhatKindsHave(t *testing.T) {
	for kind := -1; kind <= 6; kind++ {
		for _, is := range []bool{false, true} {
			for _, s := range []string{"", "1", "1.0", "a", "\xff"} {
				for _, all := range [][]value.Value{nil, {}, {null()}, {{Kind: 9}}, {number("x"), text("\xff")}} {
					for _, names := range [][]string{nil, {}, {"a"}, {"b", "a"}, {"a", "b"}, {"a", "a"}, {"\xff"}, {"a", "b", "c"}} {
						v := value.Value{Kind: kind, True: is, Text: s, List: all, Names: names}
						asModel(t, v)
						asModel(t, list(null(), v))
						asModel(t, field("x", v))
					}
				}
			}
		}
	}
}

// P13.1: numbers' texts that are canonical, and others.
func TestNumbers(t *testing.T) {
	for _, s := range []string{"0", "-0", "1", "-1", "100", "9223372036854775807", "-9223372036854775808", "1.5e+00", "-1.5e+00", "5e-01", "1e-07", "1e+19", "1.2e+100", "9.223372036854776e+18", "1.7976931348623157e+308", "-5e-324"} {
		checked(t, number(s), nil)
		asModel(t, list(number(s)))
	}
	for _, s := range []string{
		"", "-", "00", "01", "-01", "+1", "1.0", "1e2", "1E2", "1e+02", "1.5", "0.5", "1.5e0", "1.5e+0", "1.5e00", "1.5E+00", "15e-01", "1.50e+00", "-0.0", "0e+00", "1.0e+19", "1e19", "5e-324 ", " 1", "1\n",
		"9223372036854775808", "-9223372036854775809", "1e+18", "1e+400", "1e400", "-1e-400", "NaN", "+Inf", "Inf", "0x1p-02", "1_0", "null", "a", "\xff", "1\x00", strings.Repeat("1", 64), strings.Repeat("1", 65), strings.Repeat("9", 1<<16),
	} {
		checked(t, number(s), api.ErrForm)
		checked(t, list(number("1"), number(s)), api.ErrForm)
		asModel(t, field("a", number(s)))
	}
}

// P13.1: texts and names that are right, and others; a number's text that isn't
// is no canonical one.
func TestTexts(t *testing.T) {
	for _, s := range []string{"", "a", "\x00", "\x7f", "\u00e9", "\u20ac", "\U0010ffff", "\ufffd", strings.Repeat("\u00e9", 1<<16)} {
		checked(t, text(s), nil)
		checked(t, field(s, text(s)), nil)
	}
	for _, s := range []string{"\xff", "\x80", "a\xc3", "\xc0\x80", "\xed\xa0\x80", "\xf4\x90\x80\x80", "\xe2\x82", strings.Repeat("a", 1<<16) + "\xfe"} {
		checked(t, text(s), api.ErrText)
		checked(t, field(s, null()), api.ErrText)
		checked(t, list(field("a", text(s))), api.ErrText)
		checked(t, number(s), api.ErrForm)
	}
}

// P13.1: names of up to four of some, in any order: wrong ones, ones that stand
// twice, ones that don't rise.
func TestNames(t *testing.T) {
	some := []string{"", "a", "aa", "b", "B", "\u00e9", "\xff"}
	var all func(names []string)
	all = func(names []string) {
		v := object(slices.Clone(names))
		for i := range names {
			v.List = append(v.List, number(strconv.Itoa(i)))
		}
		asModel(t, v)
		asModel(t, list(v, v))
		if len(names) < 4 {
			for _, name := range some {
				all(append(slices.Clone(names), name))
			}
		}
	}
	all(nil)
	checked(t, object([]string{"b", "a", "\xff"}, null(), null(), null()), api.ErrText)
	checked(t, object([]string{"a", "a", "\xff"}, null(), null(), null()), api.ErrText)
	checked(t, object([]string{"c", "b", "a", "c"}, null(), null(), null(), null()), api.ErrTwice)
	checked(t, object([]string{"b", "a"}, null(), null()), api.ErrRange)
	checked(t, object([]string{"\U00010000", "\uffff"}, null(), null()), api.ErrRange)
	checked(t, object([]string{"\uffff", "\U00010000"}, null(), null()), nil)
	checked(t, object([]string{"a", "\u00e9", "z"}, null(), null(), null()), api.ErrRange)
}

// P13.1: 32 lists and objects within one another, and one more.
func TestDeep(t *testing.T) {
	for _, way := range []string{"lists", "objects", "both"} {
		for n := range 36 {
			for _, leaf := range []value.Value{null(), truth(true), number("1"), text("a"), list(), object(nil)} {
				v := nested(leaf, n, way)
				deep, want := n, error(nil)
				if leaf.Kind >= value.List {
					deep++
				}
				if deep > 32 {
					want = api.ErrDepth
				}
				checked(t, v, want)
				if got := value.Depth(v); got != deep {
					t.Errorf("%d %s: depth %d: want %d", n, way, got, deep)
				}
				if got := value.Many(v); got != n+1 {
					t.Errorf("%d %s: %d values", n, way, got)
				}
				checked(t, list(null(), nested(leaf, n, way)), modelCheck(list(null(), v)))
			}
		}
	}
	for _, leaf := range []value.Value{{Kind: 6}, {Kind: -1, List: []value.Value{null()}}} {
		checked(t, nested(leaf, 32, "lists"), api.ErrKind)
		checked(t, nested(leaf, 33, "both"), api.ErrDepth)
	}
	checked(t, nested(value.Value{Kind: value.List, Text: "a"}, 32, "lists"), api.ErrDepth)
	checked(t, nested(value.Value{Text: "a"}, 32, "lists"), api.ErrForm)
	checked(t, nested(object([]string{"\xff", "\xff"}), 32, "objects"), api.ErrDepth)
}

// P13.1: 4096 values, and one more, wherever they stand.
func TestManyValues(t *testing.T) {
	for n := 4090; n < 4100; n++ {
		want := error(nil)
		if n > 4096 {
			want = api.ErrMany
		}
		row := nulls(n - 1)
		halves := list(nulls(n/2), nulls(n-3-n/2))
		wide := object(nil)
		for i := range n - 1 {
			wide.Names, wide.List = append(wide.Names, strconv.Itoa(10000+i)), append(wide.List, number("1"))
		}
		tail := nested(nulls(n-31), 30, "both")
		for _, v := range []value.Value{row, halves, wide, tail} {
			if got := value.Many(v); got != n {
				t.Errorf("%d values: want %d", got, n)
			}
			checked(t, v, want)
		}
		slices.Reverse(wide.Names)
		if _, err := value.Sort(wide); err != want {
			t.Errorf("%d names: %v: want %v", n, err, want)
		}
	}
	checked(t, nulls(1<<17), api.ErrMany)
}

// P13.1: what is told of the last value that may be, and of the one behind it:
// its kind and how deep it is ahead of how many there are, all else behind.
func TestLastValue(t *testing.T) {
	for _, x := range []value.Value{null(), text("a"), {Kind: 6}, {Kind: -1}, {Text: "a"}, number(""), text("\xff"), field("\xff", null()), object([]string{"a"}), list()} {
		for n := 4090; n < 4100; n++ {
			for _, behind := range []int{0, 1, 5000} {
				v := list(append(append(make([]value.Value, n-2), x), make([]value.Value, behind)...)...)
				checked(t, v, modelCheck(v))
			}
		}
	}
	for n := 4090; n < 4100; n++ {
		ahead := make([]value.Value, n-33)
		v := list(append(ahead, nested(list(), 31, "lists"))...)
		want := error(api.ErrDepth)
		if value.Many(v) != n || modelCheck(v) != modelAt(n, want) {
			t.Fatal(n, value.Many(v), modelCheck(v))
		}
		checked(t, v, modelAt(n, want))
	}
}

// modelAt is what is told of value n, a list that stands too deep: where it is
// value 4098 or a later one, an earlier one is one too many.
func modelAt(n int, deep error) error {
	if n > 4097 {
		return api.ErrMany
	}
	return deep
}

// P13.1: what is wrong first is told: of a value ahead of those within it, and
// then of those in order; of a sorted one in the sorted order.
func TestFirstWrong(t *testing.T) {
	wrongs := []struct {
		v   value.Value
		err error
	}{
		{value.Value{Kind: 6, True: true}, api.ErrKind}, {value.Value{Kind: -1, List: []value.Value{text("\xff")}}, api.ErrKind}, {nested(null(), 33, "both"), api.ErrDepth}, {nulls(5000), api.ErrMany},
		{value.Value{True: true}, api.ErrForm}, {value.Value{Kind: value.Bool, Text: "a"}, api.ErrForm}, {value.Value{Kind: value.Number, Text: "1", True: true}, api.ErrForm}, {number("1.0"), api.ErrForm},
		{value.Value{Kind: value.Text, Text: "\xff", Names: []string{"a"}}, api.ErrForm}, {value.Value{Kind: value.List, Names: []string{"a", "a"}, List: []value.Value{{Kind: 6}, null()}}, api.ErrForm}, {object([]string{"\xff", "\xff"}, value.Value{Kind: 6}), api.ErrForm}, {object(nil, value.Value{Kind: 6}), api.ErrForm},
		{text("\xff"), api.ErrText}, {object([]string{"b", "a", "a", "\xff"}, value.Value{Kind: 6}, null(), null(), null()), api.ErrText}, {object([]string{"b", "a", "a"}, value.Value{Kind: 6}, null(), null()), api.ErrTwice},
	}
	for _, first := range wrongs {
		checked(t, first.v, first.err)
		for _, second := range wrongs {
			if second.err == api.ErrDepth || first.err == api.ErrDepth {
				continue // told at its place, not at its depth: the model does these
			}
			checked(t, list(first.v, second.v), first.err)
			checked(t, list(null(), list(text("a"), first.v), second.v), first.err)
			checked(t, object([]string{"a", "b"}, first.v, second.v), first.err)
			refusedSort(t, object([]string{"b", "a"}, second.v, first.v), first.err)
			checked(t, object([]string{"b", "a"}, second.v, first.v), api.ErrRange)
			checked(t, object([]string{"b", "b"}, second.v, first.v), api.ErrTwice)
			checked(t, value.Value{Kind: value.Number, Text: "1.0", List: []value.Value{second.v}}, api.ErrForm)
		}
	}
	for _, first := range wrongs {
		for _, second := range wrongs {
			for _, v := range []value.Value{list(first.v, second.v), object([]string{"b", "a"}, first.v, second.v), list(field("a", first.v), list(second.v))} {
				checked(t, v, modelCheck(v))
			}
		}
	}
}

// P13.1: a few lists that come to more values than there may be are refused at
// once.
func TestDoubled(t *testing.T) {
	checked(t, doubled(null(), 10), nil)
	checked(t, doubled(null(), 11), nil)
	checked(t, doubled(null(), 12), api.ErrMany)
	checked(t, doubled(null(), 31), api.ErrMany)
	checked(t, doubled(null(), 33), api.ErrDepth)
	checked(t, doubled(null(), 60), api.ErrDepth)
	checked(t, doubled(value.Value{Kind: 6}, 32), api.ErrKind)
	if got, err := value.Set(object(nil), "a", doubled(null(), 60)); err != api.ErrDepth {
		t.Error(short(got), err)
	}
	if value.Depth(doubled(null(), 12)) != 12 || value.Many(doubled(null(), 12)) != 1<<13-1 {
		t.Error(value.Depth(doubled(null(), 12)), value.Many(doubled(null(), 12)))
	}
}

// P13.1: how deep values are, and how many, of whatever value: one asks for
// kinds, the other doesn't.
func TestDepthAndMany(t *testing.T) {
	for _, c := range []struct {
		v          value.Value
		deep, many int
	}{
		{null(), 0, 1}, {text("a"), 0, 1}, {list(), 1, 1}, {object(nil), 1, 1}, {list(null(), null()), 1, 3}, {list(list(), null(), field("a", list(null()))), 3, 6},
		{list(nested(null(), 5, "both"), null()), 6, 8}, {list(null(), nested(null(), 5, "objects")), 6, 8},
		{object([]string{"a"}), 1, 1}, {object(nil, list()), 2, 2}, {object([]string{"a"}, null(), list(list())), 3, 4}, {value.Value{Kind: value.List, Names: []string{"a", "b"}}, 1, 1},
		{value.Value{List: []value.Value{list(), null()}}, 0, 3}, {value.Value{Kind: value.Text, List: []value.Value{list(null())}}, 0, 3}, {value.Value{Kind: 6, List: []value.Value{list(null())}}, 0, 3}, {value.Value{Kind: -1, List: []value.Value{null()}}, 0, 2},
		{list(value.Value{Kind: 9, List: []value.Value{list(list())}}), 1, 4}, {list(value.Value{Kind: value.Bool, List: []value.Value{list(list())}}, list()), 2, 5},
		{nested(null(), 1000, "both"), 1000, 1001}, {nested(list(), 999, "lists"), 1000, 1000}, {nulls(1 << 17), 1, 1<<17 + 1},
	} {
		if deep, many := value.Depth(c.v), value.Many(c.v); deep != c.deep || many != c.many {
			t.Errorf("%s: %d, %d: want %d, %d", short(c.v), deep, many, c.deep, c.many)
		}
	}
}

// P13.1: the calls of a value that is 1000 deep.
func TestDeepest(t *testing.T) {
	for _, way := range []string{"lists", "objects", "both"} {
		v := nested(text("a"), 1000, way)
		checked(t, v, api.ErrDepth)
		own := value.Copy(v)
		if !value.Same(v, own) || value.Same(v, nested(text("b"), 1000, way)) {
			t.Error(way)
		}
		x, ok := value.Get(field("a", v), "a")
		if !ok || !value.Same(x, v) {
			t.Error(way)
		}
		if x, ok := value.Drop(object([]string{"a", "b"}, v, null()), "b"); !ok || !value.Same(x, field("a", v)) {
			t.Error(way)
		}
		if x, err := value.Set(object(nil), "a", v); err != api.ErrDepth {
			t.Error(short(x), err)
		}
		for name, x := range value.All(field("b", v)) {
			if name != "b" || !value.Same(x, v) {
				t.Error(name)
			}
		}
	}
}

// P13.1: objects within lists and objects are sorted too, and nothing else
// changes its place.
func TestSort(t *testing.T) {
	v := list(
		number("2"), number("1"), text("b"), text("a"),
		object([]string{"b", "", "a"}, list(field("x", text("z")), object([]string{"q", "p"}, number("1"), number("2"))), truth(true), object([]string{"\u00e9", "z", "Z"}, null(), list(), text("y"))),
	)
	kept := unchanged(t, v)
	got, err := value.Sort(v)
	if err != nil {
		t.Fatal(err)
	}
	same(t, got, list(
		number("2"), number("1"), text("b"), text("a"),
		object([]string{"", "a", "b"}, truth(true), object([]string{"Z", "z", "\u00e9"}, text("y"), list(), null()), list(field("x", text("z")), object([]string{"p", "q"}, number("2"), number("1")))),
	))
	kept()
	apart(t, got, v)
	ownSorted(t, got)
	asModel(t, v)
	refusedSort(t, list(v, object([]string{"b", "a", "b"}, null(), null(), null())), api.ErrTwice)
	refusedSort(t, object([]string{"b", "a"}, null()), api.ErrForm)
	refusedSort(t, object([]string{"b"}, null(), null()), api.ErrForm)
	refusedSort(t, value.Value{Kind: value.List, Names: []string{"b", "a"}, List: []value.Value{null(), null()}}, api.ErrForm)
}

// objects are ones of all kinds, and what is none but looks like one.
func objects() []value.Value {
	two := []value.Value{number("1"), list(text("x"))}
	return []value.Value{
		object(nil), field("a", number("1")), object([]string{"a", "c"}, two...), object([]string{"", "b", "bb", "\u00e9"}, null(), truth(false), object([]string{"a", "b"}, two...), text("b")),
		object([]string{"c", "a"}, two...), object([]string{"b", "a", "c", "a"}, number("1"), number("2"), number("3"), number("4")), object([]string{"a", "a"}, two...), object([]string{"d", "a", "c"}, null(), null(), null()),
		object([]string{"a"}), object([]string{"a", "b", "c"}, two...), object([]string{"a"}, two...), object([]string{"b", "a", "b"}, two...), object(nil, two...), object([]string{"c", "b", "a"}, number("1")), object([]string{"z", "z", "z", "z"}, number("1")),
		object([]string{"\xff", "a"}, two...), field("a", value.Value{Kind: 6}), field("a", number("1.0")), object([]string{"a", "b"}, text("\xff"), null()),
		{Kind: value.Object, True: true}, {Kind: value.Object, Text: "a", Names: []string{"a"}, List: two[:1]},
		{Kind: value.Object + 1, Names: []string{"a", "b"}, List: two}, {Kind: -1, Names: []string{"a", "b"}, List: two}, {Kind: value.List, Names: []string{"a", "b"}, List: two}, {Names: []string{"a", "b"}, List: two}, {Kind: value.Text, Text: "a", Names: []string{"a"}, List: two[:1]},
		null(), truth(true), number("1"), text("a"), list(), list(two...),
	}
}

// asked are names that are asked for.
var asked = []string{"", "a", "aa", "b", "bb", "c", "d", "z", "\u00e9", "\xff", "A"}

// P13.1: each name of each object, got, set and dropped, against the model.
func TestEachName(t *testing.T) {
	for _, v := range objects() {
		for _, name := range asked {
			getAsModel(t, roomy(v), name)
			dropAsModel(t, roomy(v), name)
			for _, x := range append(objects(), value.Value{Kind: 6}, text("\xff")) {
				setAsModel(t, roomy(v), name, roomy(x))
			}
		}
		allAsModel(t, roomy(v))
	}
}

// getAsModel asks for a name's value.
func getAsModel(t *testing.T, v value.Value, name string) {
	t.Helper()
	kept := unchanged(t, v)
	var want value.Value
	at := modelFind(v, name)
	if at >= 0 {
		want = v.List[at]
	}
	x, ok := value.Get(v, name)
	if ok != (at >= 0) {
		t.Errorf("%s: %q: %v", short(v), name, ok)
	}
	same(t, x, want)
	apart(t, x, v)
	kept()
}

// setAsModel asks for an object with a name's value, and for that name's value
// in it.
func setAsModel(t *testing.T, v value.Value, name string, x value.Value) {
	t.Helper()
	kept := unchanged(t, v, x)
	want, fault := modelSet(v, name, x)
	got, err := value.Set(v, name, x)
	if err != fault {
		t.Errorf("%s: set %q, %s: %v: want %v", short(v), name, short(x), err, fault)
	}
	same(t, got, want)
	apart(t, got, v, x)
	kept()
	if err == nil {
		back, ok := value.Get(got, name)
		if !ok || !value.Same(back, x) {
			t.Errorf("%s: set %q, got %s, %v", short(v), name, short(back), ok)
		}
		ownSorted(t, got)
	}
}

// dropAsModel asks for an object without a name.
func dropAsModel(t *testing.T, v value.Value, name string) {
	t.Helper()
	kept := unchanged(t, v)
	want := modelSort(list(v)).List[0]
	want.Names, want.List = append([]string{}, v.Names...), append([]value.Value{}, v.List...)
	at := modelFind(v, name)
	if at >= 0 {
		want.Names = append(append([]string{}, v.Names[:at]...), v.Names[at+1:]...)
		want.List = append(append([]value.Value{}, v.List[:at]...), v.List[at+1:]...)
	}
	got, ok := value.Drop(v, name)
	if ok != (at >= 0) {
		t.Errorf("%s: drop %q: %v", short(v), name, ok)
	}
	same(t, got, want)
	apart(t, got, v)
	kept()
}

// allAsModel asks for an object's pairs, as far as they are gone through, each
// time anew.
func allAsModel(t *testing.T, v value.Value) {
	t.Helper()
	kept := unchanged(t, v)
	pairs := modelPairs(v)
	all := value.All(v)
	var handed []value.Value
	for most := range len(pairs) + 1 {
		n := 0
		for name, x := range all {
			if n >= len(pairs) || name != pairs[n].name {
				t.Fatalf("%s: pair %d: %q", short(v), n, name)
			}
			same(t, x, pairs[n].v)
			apart(t, x, append(handed, v)...)
			handed = append(handed, x)
			n++
			if n > most {
				break
			}
		}
		if n != min(most+1, len(pairs)) {
			t.Errorf("%s: %d pairs of %d", short(v), n, len(pairs))
		}
	}
	kept()
}

// P13.1: an iterator tells what was handed in, also where that, or what was
// told, changes later.
func TestAllChanged(t *testing.T) {
	v := object(words("a", "b"), list(text("x")), text("y"))
	all := value.All(v)
	v.Names[0], v.Names[1] = "c", "d"
	v.List[0].List[0] = null()
	v.List[1] = null()
	for range 3 {
		told := ""
		for name, x := range all {
			told += name + modelText(x) + " "
			x.Text = "changed"
			if len(x.List) > 0 {
				x.List[0] = text("changed")
			}
			v.Names[1] = "e"
			v.List[1] = list()
		}
		if want := "a" + modelText(list(text("x"))) + " b" + modelText(text("y")) + " "; told != want {
			t.Errorf("%s: want %s", told, want)
		}
	}
}

// P13.1: what is set: where a name goes, which of two is meant, and what is
// refused.
func TestSet(t *testing.T) {
	v := object([]string{"b", "d"}, number("1"), number("2"))
	for name, want := range map[string]value.Value{
		"":   object([]string{"", "b", "d"}, text("x"), number("1"), number("2")),
		"a":  object([]string{"a", "b", "d"}, text("x"), number("1"), number("2")),
		"b":  object([]string{"b", "d"}, text("x"), number("2")),
		"bb": object([]string{"b", "bb", "d"}, number("1"), text("x"), number("2")),
		"d":  object([]string{"b", "d"}, number("1"), text("x")),
		"e":  object([]string{"b", "d", "e"}, number("1"), number("2"), text("x")),
	} {
		got, err := value.Set(v, name, text("x"))
		if err != nil {
			t.Error(name, err)
		}
		same(t, got, want)
	}
	for i, c := range []struct {
		v    value.Value
		name string
		x    value.Value
		want error
	}{
		{null(), "a", null(), api.ErrKind}, {list(), "\xff", null(), api.ErrKind}, {value.Value{Kind: 6}, "a", null(), api.ErrKind}, {v, "a", value.Value{Kind: 6}, api.ErrKind},
		{v, "\xff", value.Value{Kind: 6}, api.ErrText}, {v, "a", text("\xff"), api.ErrText}, {v, "a", number("1.0"), api.ErrForm}, {v, "a", nested(null(), 31, "both"), nil}, {v, "a", nested(null(), 32, "both"), api.ErrDepth},
		{v, "a", nulls(4092), nil}, {v, "a", nulls(4093), api.ErrMany}, {v, "b", nulls(4093), nil}, {v, "b", nulls(4094), api.ErrMany}, {v, "z", nulls(4092), nil}, {v, "z", nulls(4093), api.ErrMany},
		{object([]string{"b", "a"}, null(), null()), "b", null(), api.ErrRange}, {object([]string{"b", "a"}, null(), null()), "c", text("\xff"), api.ErrRange}, {object([]string{"a", "a"}, null(), null()), "a", null(), api.ErrTwice},
		{object([]string{"a"}), "a", null(), api.ErrForm}, {object([]string{"a"}), "\xff", null(), api.ErrForm}, {object(nil, null()), "a", null(), api.ErrForm}, {object([]string{"a", "b"}, null()), "b", null(), api.ErrForm}, {object([]string{"a", "b"}, null()), "c", null(), api.ErrForm}, {object([]string{"b"}, null(), null()), "a", null(), api.ErrForm},
		{value.Value{Kind: value.Object, True: true}, "a", null(), api.ErrForm}, {value.Value{Kind: value.Object, Text: "x"}, "\xff", null(), api.ErrForm},
		{field("a", text("\xff")), "b", null(), api.ErrText}, {field("a", text("\xff")), "a", null(), nil}, {field("b", number("01")), "a", text("\xff"), api.ErrText}, {field("b", number("01")), "c", text("\xff"), api.ErrForm},
	} {
		got, err := value.Set(c.v, c.name, c.x)
		if err != c.want {
			t.Errorf("%d: %v: want %v", i, err, c.want)
		}
		if c.want != nil {
			same(t, got, null())
		}
	}
}

// P13.1: what is dropped: the first of a name alone, with its own value; a
// value that isn't checked; nothing of another kind.
func TestDrop(t *testing.T) {
	v := object([]string{"b", "a", "b"}, number("1"), number("2"), text("\xff"))
	got, ok := value.Drop(v, "b")
	if !ok {
		t.Error("b")
	}
	same(t, got, object([]string{"a", "b"}, number("2"), text("\xff")))
	got, ok = value.Drop(got, "b")
	if !ok {
		t.Error("b, again")
	}
	same(t, got, field("a", number("2")))
	for _, name := range []string{"b", "", "aa"} {
		again, ok := value.Drop(got, name)
		if ok {
			t.Error(name)
		}
		same(t, again, got)
		apart(t, again, got)
	}
	lacking := object([]string{"a", "b"}, number("1"))
	if got, ok := value.Drop(lacking, "b"); ok || !value.Same(got, lacking) {
		t.Error(short(got), ok)
	}
	if got, ok := value.Drop(lacking, "a"); !ok || !value.Same(got, object([]string{"b"})) {
		t.Error(short(got), ok)
	}
	none := value.Value{Kind: value.List, Names: []string{"a"}, List: []value.Value{null()}}
	if got, ok := value.Drop(none, "a"); ok || !value.Same(got, none) {
		t.Error(short(got), ok)
	}
}

// P13.1: values are the same where all of them is: each of many against each.
func TestSame(t *testing.T) {
	all := objects()
	for _, v := range objects() {
		all = append(all, list(v), field("a", v), list(v, null()), list(null(), v))
	}
	all = append(all,
		truth(false), number("0"), number("-0"), text("0"), text("\u00e9"), text("e\u0301"), text("\xff"), text("\xfe"), number("1e0"), number("1.0"), list(null()), list(null(), null()), list(list(), null()), list(null(), list()),
		object([]string{"a", "b"}, null(), text("")), object([]string{"b", "a"}, text(""), null()), object([]string{"ab"}, null(), null()), object([]string{"a", "b"}, null(), null()), object([]string{"", "ab"}, null(), null()),
		value.Value{Kind: 7}, value.Value{True: true}, value.Value{Text: "a"}, value.Value{Names: []string{"a"}}, value.Value{Names: []string{""}}, value.Value{List: []value.Value{null()}},
	)
	for _, a := range all {
		for _, b := range all {
			if want := modelText(a) == modelText(b); value.Same(a, b) != want {
				t.Errorf("%s, %s: %v", short(a), short(b), !want)
			}
		}
		if !value.Same(a, roomy(a)) {
			t.Errorf("%s: not the same apart", short(a))
		}
	}
	empty := value.Value{Kind: value.Object, List: []value.Value{}, Names: []string{}}
	if !value.Same(empty, object(nil)) || !value.Same(object(nil), empty) || !value.Same(list(empty), list(object(nil))) {
		t.Error("nil and empty")
	}
	if err := value.Check(value.Value{Kind: value.Text, Text: "a", List: []value.Value{}, Names: []string{}}); err != nil {
		t.Error("empty lists of a text:", err)
	}
}

// P13.1: a copy is the same, and apart, whatever the value is.
func TestCopy(t *testing.T) {
	for _, v := range objects() {
		for _, v := range []value.Value{v, list(v, v), object([]string{"b", "a"}, v, list(v))} {
			v = roomy(v)
			kept := unchanged(t, v)
			got := value.Copy(v)
			same(t, got, v)
			apart(t, got, v)
			kept()
		}
	}
	x := list(text("a"))
	got := value.Copy(list(x, x))
	apart(t, got, x)
	got.List[0].List[0] = text("b")
	same(t, got, list(list(text("b")), list(text("a"))))
}

// P13.2: what was set is got, what was dropped isn't, names rise all the while,
// and what was set first is what was set last: against a map.
func TestSetGetDrop(t *testing.T) {
	draw := rand.New(rand.NewSource(13))
	for range 200 {
		v := object(nil)
		model := map[string]value.Value{}
		for step := range 60 {
			name := asked[draw.Intn(len(asked))]
			if name == "\xff" {
				name = strings.Repeat("\u20ac", draw.Intn(4))
			}
			if draw.Intn(3) > 0 {
				x := list(number(strconv.Itoa(step)), text(name))
				set, err := value.Set(v, name, x)
				if err != nil {
					t.Fatal(err)
				}
				v, model[name] = set, x
			} else {
				dropped, ok := value.Drop(v, name)
				if _, was := model[name]; ok != was {
					t.Errorf("%s: drop %q: %v", short(v), name, ok)
				}
				v = dropped
				delete(model, name)
			}
			asMap(t, v, model)
		}
	}
}

// asMap asks for an object of just a map's names and values.
func asMap(t *testing.T, v value.Value, model map[string]value.Value) {
	t.Helper()
	n := 0
	for name, x := range value.All(v) {
		if want, ok := model[name]; !ok || !value.Same(x, want) {
			t.Errorf("%q: %s", name, short(x))
		}
		n++
	}
	if n != len(model) || len(v.Names) != n || len(v.List) != n {
		t.Errorf("%d names: want %d", n, len(model))
	}
	for _, name := range asked {
		x, ok := value.Get(v, name)
		want, is := model[name]
		if ok != is || !value.Same(x, want) {
			t.Errorf("%q: %s, %v", name, short(x), ok)
		}
	}
	ownSorted(t, v)
}

// drawn is a value of any kind, of at most so many levels; where one of wrong
// is 0 when drawn, something may be wrong with it.
func drawn(draw *rand.Rand, levels, wrong int) value.Value {
	kinds := 6
	if levels == 0 {
		kinds = 4
	}
	v := value.Value{Kind: draw.Intn(kinds)}
	switch v.Kind {
	case value.Bool:
		v.True = draw.Intn(2) == 0
	case value.Number:
		v.Text = []string{"0", "-0", "15", "1.5e+00", "-9223372036854775808"}[draw.Intn(5)]
	case value.Text:
		v.Text = asked[draw.Intn(9)]
	case value.List:
		for range draw.Intn(4) {
			v.List = append(v.List, drawn(draw, levels-1, wrong))
		}
	case value.Object:
		for _, at := range draw.Perm(9)[:draw.Intn(5)] {
			v.Names = append(v.Names, asked[at])
			v.List = append(v.List, drawn(draw, levels-1, wrong))
		}
	}
	if wrong > 0 && draw.Intn(wrong) == 0 {
		spoil(draw, &v)
	}
	return v
}

// spoil changes something of a value, mostly to what is wrong.
func spoil(draw *rand.Rand, v *value.Value) {
	switch draw.Intn(8) {
	case 0:
		v.Kind = draw.Intn(9) - 1
	case 1:
		v.True = true
	case 2:
		v.Text += []string{"", "\xff", ".0", "x"}[draw.Intn(4)]
	case 3:
		v.Names = append(v.Names, asked[draw.Intn(len(asked))])
	case 4:
		v.List = append(v.List, null())
	case 5:
		v.Names, v.List = append(v.Names, asked[draw.Intn(len(asked))]), append(v.List, truth(true))
	case 6:
		if len(v.Names) > 0 {
			v.Names[draw.Intn(len(v.Names))] = asked[draw.Intn(len(asked))]
		}
	case 7:
		*v = nested(*v, draw.Intn(34), "both")
	}
}

// P13.1, P13.2: values of all kinds, right ones and wrong ones, through all
// calls.
func TestDrawn(t *testing.T) {
	draw := rand.New(rand.NewSource(130))
	for i := range 6000 {
		wrong := []int{0, 3, 12}[i%3]
		v := roomy(drawn(draw, 4, wrong))
		asModel(t, v)
		name := asked[draw.Intn(len(asked))]
		getAsModel(t, v, name)
		dropAsModel(t, v, name)
		setAsModel(t, v, name, roomy(drawn(draw, 2, wrong)))
		allAsModel(t, v)
		own := value.Copy(v)
		same(t, own, v)
		apart(t, own, v)
		other := drawn(draw, 1, wrong)
		if !value.Same(own, v) || value.Same(v, other) != (modelText(v) == modelText(other)) {
			t.Errorf("%s, %s", short(v), short(other))
		}
	}
}
