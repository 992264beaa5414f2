package num_test

import (
	"math"
	"math/big"
	"math/rand"
	"slices"
	"strconv"
	"strings"
	"testing"

	"crossdock/api"
	"crossdock/num"
)

// same tells whether two floats are the same to the bit.
func same(a, b float64) bool {
	return math.Float64bits(a) == math.Float64bits(b)
}

// refused asks for an error of all that reads a text, and for nothing beside
// it.
func refused(t *testing.T, s string, want error) {
	t.Helper()
	if num.Is(s) {
		t.Errorf("%q is a number's text", s)
	}
	if f, err := num.Float(s); !same(f, 0) || err != want {
		t.Errorf("%q: float %v, %v: want %v", s, f, err, want)
	}
	if n, err := num.Whole(s); n != 0 || err != want {
		t.Errorf("%q: whole %d, %v: want %v", s, n, err, want)
	}
	if c, err := num.Canon(s); c != "" || err != want {
		t.Errorf("%q: canon %q, %v: want %v", s, c, err, want)
	}
}

// asModel asks for what the document asks of a text, whatever that is.
func asModel(t *testing.T, s string) {
	t.Helper()
	if err := modelForm(s); err != nil {
		refused(t, s, err)
		return
	}
	if !num.Is(s) {
		t.Errorf("%q is no number's text", s)
	}
	f, fault := num.Float(s)
	asNearest(t, s, f, fault)
	n, err := num.Whole(s)
	if whole, want := modelWhole(s); n != whole || err != want {
		t.Errorf("%q: whole %d, %v: want %d, %v", s, n, err, whole, want)
	}
	canon, wrong := "", fault
	if err == nil && (n != 0 || s[0] != '-') {
		canon, wrong = strconv.Itoa(n), nil
	} else if fault == nil {
		canon = modelFloatText(f)
	}
	got, err := num.Canon(s)
	if got != canon || err != wrong {
		t.Errorf("%q: canon %q, %v: want %q, %v", s, got, err, canon, wrong)
	}
	if err == nil {
		ownCanon(t, got)
	}
}

// asNearest asks what Float has answered of a number's text.
func asNearest(t *testing.T, s string, f float64, err error) {
	t.Helper()
	asked := f
	switch {
	case err == api.ErrRange:
		asked = math.Inf(modelValue(s).Sign())
		if !same(f, 0) {
			t.Errorf("%q: float %v beside %v", s, f, err)
		}
	case err != nil || math.IsInf(f, 0) || math.IsNaN(f):
		t.Errorf("%q: float %v, %v", s, f, err)
		return
	}
	if !nearest(asked, modelValue(s)) || math.Signbit(asked) != (s[0] == '-') {
		t.Errorf("%q: float %v, %v isn't the nearest", s, f, err)
	}
}

// modelFloatText is the text of a float that has one.
func modelFloatText(f float64) string {
	v := new(big.Rat).SetFloat64(f)
	switch {
	case same(f, math.Copysign(0, -1)):
		return "-0"
	case v.IsInt() && v.Num().IsInt64():
		return v.Num().String()
	}
	return strconv.FormatFloat(f, 'e', -1, 64)
}

// ownCanon asks a canonical text to be its own one.
func ownCanon(t *testing.T, s string) {
	t.Helper()
	if c, err := num.Canon(s); c != s || err != nil || !num.Is(s) {
		t.Errorf("canon of %q: %q, %v", s, c, err)
	}
}

// hasText asks for a float's text, and for the way back.
func hasText(t *testing.T, f float64, want string) {
	t.Helper()
	s, err := num.Text(f)
	if s != want || err != nil {
		t.Errorf("%b: text %q, %v: want %q", f, s, err, want)
	}
	if back, err := num.Float(s); !same(back, f) || err != nil {
		t.Errorf("%q: float %b, %v: want %b", s, back, err, f)
	}
	ownCanon(t, s)
}

// P12.1: the chapter's examples.
func TestExamples(t *testing.T) {
	for s, want := range map[string]string{"1.50e1": "15", "1.5": "1.5e+00", "1e2": "100", "-0.0": "-0"} {
		if c, err := num.Canon(s); c != want || err != nil {
			t.Errorf("%q: %q, %v: want %q", s, c, err, want)
		}
	}
	if c, err := num.Canon("1e400"); c != "" || err != api.ErrRange {
		t.Errorf("%q, %v", c, err)
	}
}

// P12.1: all texts of up to six of a number's signs.
func TestShort(t *testing.T) {
	const signs = "-+.eE015"
	var all func(s string, n int)
	all = func(s string, n int) {
		asModel(t, s)
		if n > 0 {
			for i := range len(signs) {
				all(s+signs[i:i+1], n-1)
			}
		}
	}
	all("", 6)
}

// P12.1: each byte in the place of each byte of right texts, ahead of it, and
// behind all.
func TestEachByte(t *testing.T) {
	for _, s := range []string{"0", "-0", "10", "-1.50E+10", "0.05e-7", "120", "9e9"} {
		for at := range len(s) + 1 {
			for c := range 256 {
				b := string([]byte{byte(c)})
				asModel(t, s[:at]+b+s[at:])
				if at < len(s) {
					asModel(t, s[:at]+b+s[at+1:])
				}
			}
		}
	}
}

// P12.1: what is no number's text, though it is one elsewhere.
func TestWrong(t *testing.T) {
	for _, s := range []string{
		"", "-", "+", ".", "e", "--1", "+0", "-+1", "00", "-00", "007", "01.5", "-01", ".5", "-.5", "5.", "5.e1", "1..2", "1.2.3",
		"1e", "1E", "1e+", "1e-", "1e+-1", "1e1.5", "1e1e1", "e1", "-e1", "1e 1", "1 ", " 1", "1\n", "\t1", "1\x00", "1,5", "1_000", "0x10", "0x1p4", "1p4", "0b1", "0o7",
		"Inf", "inf", "-Inf", "+Inf", "infinity", "NaN", "nan", "true", "null", "\"1\"", "1f", "1i", "\uff11", "\u0661", "\u22121", "1\xff", "\xff",
	} {
		refused(t, s, api.ErrForm)
	}
}

// P12.1: texts of 64 bytes, and of more: these are too long, whatever they are.
func TestLong(t *testing.T) {
	for _, s := range []struct{ ahead, fill, behind string }{
		{"", "1", ""}, {"-", "9", ""}, {"1", "0", ""}, {"0.", "0", ""}, {"0.", "0", "1"}, {"-0.", "9", ""}, {"1.", "0", ""}, {"1e", "0", "1"}, {"1E-", "0", "1"},
		{"1.5e+", "0", ""}, {"1e", "9", ""}, {"1e-", "9", ""}, {"0e", "9", ""}, {"-0E-", "9", ""}, {"1", "0", "e-50"}, {"0.", "0", "1e52"}, {"0.", "0", "1e70"},
		{"", "0", ""}, {"", "x", ""}, {"", "-", ""}, {" ", "1", ""}, {"1", "\xff", ""}, {"1", "0", "."}, {"1", "0", "e"},
	} {
		for n := 60; n < 70; n++ {
			rest := n - len(s.ahead) - len(s.behind)
			asModel(t, s.ahead+strings.Repeat(s.fill, rest)+s.behind)
		}
		for _, n := range []int{65, 128, 255, 256, 1 << 16, 1 << 20} {
			refused(t, strings.Repeat("0", n), api.ErrLong)
			refused(t, (s.ahead + strings.Repeat(s.fill, n) + s.behind)[:n], api.ErrLong)
		}
	}
	text := strings.Repeat("7", 64)
	if !num.Is(text) || num.Is(text+"7") {
		t.Error("64 bytes")
	}
}

// P12.1: whole numbers at their edges, with points and powers, and which error
// is told of what isn't one.
func TestWhole(t *testing.T) {
	for s, want := range map[string]int{
		"0": 0, "-0": 0, "0.000": 0, "-0.0e9": 0, "0e99999999999999999999": 0, "0.00e-99999999999999999999": 0,
		"7": 7, "-7": -7, "1e0": 1, "1E+0": 1, "1e-0": 1, "1.0": 1, "-1.0": -1, "10e-1": 1, "100e-0002": 1, "0.1e1": 1, "0.001e3": 1, "0.0010e+4": 10, "1.50E1": 15, "12.3400e2": 1234,
		"9223372036854775807": math.MaxInt64, "-9223372036854775808": math.MinInt64, "9223372036854775807.000": math.MaxInt64, "9.223372036854775807e18": math.MaxInt64, "-0.9223372036854775808e19": math.MinInt64,
		"92233720368547758070e-1": math.MaxInt64, "-92233720368547758080000e-4": math.MinInt64, "9e18": 9e18, "-9e18": -9e18, "1000000000000000000000000e-24": 1,
		"0.00000000000000000000000000000000000000001e41": 1, "1000000000000000000": 1e18, "9007199254740993": 1<<53 + 1, "-9007199254740993e0": -1<<53 - 1,
	} {
		if n, err := num.Whole(s); n != want || err != nil {
			t.Errorf("%q: %d, %v: want %d", s, n, err, want)
		}
		asModel(t, s)
	}
	for s, want := range map[string]error{
		"9223372036854775808": api.ErrRange, "-9223372036854775809": api.ErrRange, "9.223372036854775808e18": api.ErrRange, "10000000000000000000": api.ErrRange, "1e19": api.ErrRange, "-1e19": api.ErrRange,
		"99999999999999999999": api.ErrRange, "18446744073709551616": api.ErrRange, "18446744073709551617": api.ErrRange, "-18446744073709551615": api.ErrRange, "1e400": api.ErrRange, "1e9223372036854775807": api.ErrRange, "1e18446744073709551616": api.ErrRange, "-1e99999999999999999999": api.ErrRange,
		"0.1": api.ErrKind, "-0.1": api.ErrKind, "1e-1": api.ErrKind, "10e-2": api.ErrKind, "12e-1": api.ErrKind, "1.05e1": api.ErrKind, "1e-400": api.ErrKind, "1e-9223372036854775808": api.ErrKind, "1e-18446744073709551616": api.ErrKind, "1e-99999999999999999999": api.ErrKind,
		"9223372036854775807.5": api.ErrKind, "-9223372036854775808.5": api.ErrKind, "99999999999999999999.5": api.ErrKind, "1.00000000000000000000000000000000000001": api.ErrKind, "123456789012345678901234567890e-1": api.ErrRange, "123456789012345678901234567891e-1": api.ErrKind,
	} {
		if n, err := num.Whole(s); n != 0 || err != want {
			t.Errorf("%q: %d, %v: want %v", s, n, err, want)
		}
		asModel(t, s)
	}
}

// P12.1: floats at their edges: the greatest one, the least one, and the
// halves between two.
func TestFloat(t *testing.T) {
	const least = math.SmallestNonzeroFloat64
	for s, want := range map[string]float64{
		"0": 0, "0.0e99": 0, "1e-400": 0, "1e-99999999999999999999": 0, "0e99999999999999999999": 0, "1": 1, "0.1": 0.1, "1E23": 1e23, "8.5e0": 8.5,
		"1.7976931348623157e308": math.MaxFloat64, "1.7976931348623158e+308": math.MaxFloat64, "1.797693134862315807937289714053034150799341327100378269361e308": math.MaxFloat64,
		"5e-324": least, "4e-324": least, "2.4703282292062328e-324": least, "2.4703282292062327e-324": 0, "7.4e-324": least, "7.5e-324": 2 * least, "2.2250738585072011e-308": 0x0.fffffffffffffp-1022, "2.2250738585072014e-308": 0x1p-1022,
		"9007199254740992": 1 << 53, "9007199254740993": 1 << 53, "9007199254740993.00000000000000000000000000000000000000000001": 1<<53 + 2, "9007199254740994": 1<<53 + 2, "9007199254740995": 1<<53 + 4, "9007199254740996": 1<<53 + 4,
		"4503599627370496.5": 1 << 52, "4503599627370497.5": 1<<52 + 2, "9223372036854775807": 1 << 63, "9223372036854775295": 1<<63 - 1024, "9223372036854775296": 1 << 63, "9223372036854775297": 1 << 63,
		"1.00000000000000011102230246251565404236316680908203125": 1, "1.00000000000000011102230246251565404236316680908203126": 1 + 0x1p-52, "1.00000000000000033306690738754696212708950042724609375": 1 + 0x1p-51,
	} {
		for _, sign := range []string{"", "-"} {
			f, err := num.Float(sign + s)
			if sign == "-" {
				f = -f
			}
			if !same(f, want) || err != nil {
				t.Errorf("%s%s: %b, %v: want %b", sign, s, f, err, want)
			}
			asModel(t, sign+s)
		}
	}
	for _, s := range []string{"1.797693134862315808e308", "1.797693134862315807937289714053034150799341327100378269362e308", "1.7976931348623159e308", "2e308", "1e309", "0.001e312", "1000e306", "1e99999999999999999999", "1e18446744073709551616"} {
		for _, sign := range []string{"", "-"} {
			if f, err := num.Float(sign + s); !same(f, 0) || err != api.ErrRange {
				t.Errorf("%s%s: %v, %v", sign, s, f, err)
			}
			asModel(t, sign+s)
		}
	}
}

// P12.1: values that stand just between two floats, and next to that: whole
// ones of up to 63 figures, and ones with a point.
func TestBetween(t *testing.T) {
	draw := rand.New(rand.NewSource(12))
	one := big.NewInt(1)
	for range 3000 {
		odd := new(big.Int).SetInt64(1<<53 + draw.Int63n(1<<53) | 1)
		v := new(big.Int).Lsh(odd, uint(draw.Intn(140)))
		for _, s := range []string{v.String(), new(big.Int).Add(v, one).String(), new(big.Int).Sub(v, one).String()} {
			asModel(t, s)
			asModel(t, "-"+s)
		}
		places := 1 + draw.Intn(44)
		v = new(big.Int).Mul(odd, new(big.Int).Exp(big.NewInt(5), big.NewInt(int64(places)), nil))
		for _, n := range []*big.Int{v, new(big.Int).Add(v, one), new(big.Int).Sub(v, one)} {
			asModel(t, n.String()+"e-"+strconv.Itoa(places))
			asModel(t, new(big.Rat).SetFrac(n, new(big.Int).Exp(big.NewInt(10), big.NewInt(int64(places)), nil)).FloatString(places))
		}
	}
}

// P12.1: numbers' texts of any length, with powers far and near.
func TestDrawn(t *testing.T) {
	draw := rand.New(rand.NewSource(120))
	list := func(most int) string {
		var b strings.Builder
		for range 1 + draw.Intn(most) {
			b.WriteByte("00000123456789999"[draw.Intn(17)])
		}
		return b.String()
	}
	for range 30000 {
		s := []string{"", "-"}[draw.Intn(2)]
		s += strings.TrimLeft(list(24), "0")
		if s == "" || s == "-" {
			s += "0"
		}
		if draw.Intn(2) == 0 {
			s += "." + list(24)
		}
		if draw.Intn(3) > 0 {
			power := list(2 + draw.Intn(3)*draw.Intn(2))
			s += []string{"e", "E"}[draw.Intn(2)] + []string{"", "+", "-"}[draw.Intn(3)] + power
		}
		asModel(t, s)
	}
}

// edges are floats at edges, each below the next one.
func edges() []float64 {
	above := []float64{
		math.SmallestNonzeroFloat64, 2 * math.SmallestNonzeroFloat64, 0x0.fffffffffffffp-1022, 0x1p-1022, 1e-7, 0.1, 0.5, 1 - 0x1p-53, 1, 1 + 0x1p-52, 1.5, 2, 15, 100,
		1<<31 - 1, 1 << 31, 1 << 32, 1<<52 - 0.5, 1 << 52, 1<<52 + 0.5 + 0.5, 1<<53 - 1, 1 << 53, 1<<53 + 2, 1 << 62, 1<<63 - 1024, 1 << 63, 1<<63 + 2048, 1e19, 1 << 64, 1e21, 1e22, 1e23, 1e300, math.MaxFloat64, math.Inf(1),
	}
	var all []float64
	for _, f := range slices.Backward(above) {
		all = append(all, -f)
	}
	all = append(all, math.Copysign(0, -1), 0)
	return append(all, above...)
}

// P12.1: a float's text: what has none, and where figures alone end.
func TestText(t *testing.T) {
	for _, f := range []float64{math.Inf(1), math.Inf(-1), math.NaN(), math.Float64frombits(0x7ff0000000000001), math.Float64frombits(0xfff8000000000000), math.Float64frombits(math.MaxUint64)} {
		if s, err := num.Text(f); s != "" || err != api.ErrRange {
			t.Errorf("%x: %q, %v", math.Float64bits(f), s, err)
		}
	}
	for want, f := range map[string]float64{
		"0": 0, "-0": math.Copysign(0, -1), "1": 1, "-1": -1, "100": 100, "1.5e+00": 1.5, "-1.5e+00": -1.5, "1e-01": 0.1, "1e-07": 1e-7, "4.5035996273704955e+15": 1<<52 - 0.5,
		"9007199254740991": 1<<53 - 1, "9007199254740994": 1<<53 + 2, "1000000000000000000": 1e18, "9223372036854774784": 1<<63 - 1024, "9.223372036854776e+18": 1 << 63, "-9223372036854775808": -1 << 63, "-9.223372036854778e+18": -1<<63 - 2048,
		"1e+19": 1e19, "1e+22": 1e22, "1e+100": 1e100, "1.7976931348623157e+308": math.MaxFloat64, "5e-324": math.SmallestNonzeroFloat64, "-5e-324": -math.SmallestNonzeroFloat64,
	} {
		hasText(t, f, want)
	}
}

// P12.2: each float that has a text is that text's, and the text is canonical:
// edges, and floats of any bits.
func TestThereAndBack(t *testing.T) {
	for _, f := range edges() {
		if !math.IsInf(f, 0) {
			hasText(t, f, modelFloatText(f))
		}
	}
	draw := rand.New(rand.NewSource(1200))
	for range 100000 {
		whole := float64(int64(draw.Uint64()) >> draw.Intn(64))
		for _, f := range []float64{math.Float64frombits(draw.Uint64()), whole, whole / 8, whole * 8} {
			if !math.IsInf(f, 0) && !math.IsNaN(f) {
				hasText(t, f, modelFloatText(f))
			}
		}
	}
}

// P12.2: canonical texts say what the texts said.
func TestCanonSays(t *testing.T) {
	for _, s := range []string{"0.0", "-0e7", "1.50e1", "-12e-1", "9007199254740993", "9007199254740993.0", "9007199254740993.5", "9223372036854775807", "9223372036854775807.5", "-9223372036854775808", "-9223372036854775809", "18446744073709551615", "1e22", "1e-400", "-1e-400", "0.1", "1.00000000000000000000000001", "0.999999999999999999999999999", "123e-2", "2.50e-5"} {
		c, err := num.Canon(s)
		if err != nil {
			t.Fatal(s, err)
		}
		ownCanon(t, c)
		before, _ := num.Float(s)
		if after, err := num.Float(c); !same(before, after) || err != nil {
			t.Errorf("%q: %b, %q: %b, %v", s, before, c, after, err)
		}
		if n, err := num.Whole(s); err == nil {
			if m, err := num.Whole(c); m != n || err != nil {
				t.Errorf("%q: %d, %q: %d, %v", s, n, c, m, err)
			}
		}
	}
}

// P12.1, P12.2: floats held against each other, each with each, and that this
// is an order: of two just one is ahead, or they are alike, and what is ahead of
// what is ahead is ahead.
func TestOrder(t *testing.T) {
	list := append(edges(), math.NaN(), math.Float64frombits(0x7ff0000000000001), math.Float64frombits(0xfff8000000000000), math.Float64frombits(math.MaxUint64))
	draw := rand.New(rand.NewSource(12000))
	for range 40 {
		list = append(list, math.Float64frombits(draw.Uint64()))
	}
	for _, a := range list {
		for _, b := range list {
			want := modelRank(a).Cmp(modelRank(b))
			if num.Less(a, b) != (want < 0) || num.Same(a, b) != (want == 0) {
				t.Errorf("%b, %b: less %v, same %v: want %d", a, b, num.Less(a, b), num.Same(a, b), want)
			}
			if num.Less(a, b) && num.Less(b, a) || num.Same(a, b) != num.Same(b, a) {
				t.Errorf("%b, %b: both ways", a, b)
			}
			for _, c := range list {
				if num.Less(a, b) && num.Less(b, c) && !num.Less(a, c) || num.Same(a, b) && num.Same(b, c) && !num.Same(a, c) || num.Same(a, b) && num.Less(a, c) != num.Less(b, c) {
					t.Errorf("%b, %b, %b: no order", a, b, c)
				}
			}
		}
	}
	for i, a := range edges() {
		for k, b := range edges() {
			if num.Less(a, b) != (i < k) || num.Same(a, b) != (i == k) {
				t.Errorf("%b, %b: %d, %d", a, b, i, k)
			}
		}
	}
}
