package num_test

import (
	"math"
	"math/big"
	"regexp"
	"strings"

	"crossdock/api"
)

// modelText is a number's text, of whatever length.
var modelText = regexp.MustCompile(`^(-?)(0|[1-9][0-9]*)(?:\.([0-9]+))?(?:[eE]([+-]?[0-9]+))?$`)

// modelForm tells what is wrong with a text, if something is.
func modelForm(s string) error {
	if len(s) > 64 {
		return api.ErrLong
	}
	if strings.Contains(s, "\n") || !modelText.MatchString(s) {
		return api.ErrForm
	}
	return nil
}

// modelValue is what a number's text says, exactly. A power of ten beyond 5000
// either way is taken for 5000: the values are then far beyond all edges.
func modelValue(s string) *big.Rat {
	m := modelText.FindStringSubmatch(s)
	v, ok := new(big.Rat).SetString(m[1] + m[2] + "." + m[3] + "0")
	if !ok {
		panic(s)
	}
	power := new(big.Int)
	if m[4] != "" {
		power.SetString(m[4], 10)
	}
	if power.CmpAbs(big.NewInt(5000)) > 0 {
		power.SetInt64(int64(5000 * power.Sign()))
	}
	size := new(big.Int).Abs(power)
	ten := new(big.Rat).SetInt(new(big.Int).Exp(big.NewInt(10), size, nil))
	if power.Sign() < 0 {
		ten.Inv(ten)
	}
	return v.Mul(v, ten)
}

// modelWhole is the whole number that a text says.
func modelWhole(s string) (int, error) {
	if err := modelForm(s); err != nil {
		return 0, err
	}
	v := modelValue(s)
	switch {
	case !v.IsInt():
		return 0, api.ErrKind
	case !v.Num().IsInt64():
		return 0, api.ErrRange
	}
	return int(v.Num().Int64()), nil
}

// exactly is a float's value, where that of the infinity is that of the float
// that would follow.
func exactly(f float64) *big.Rat {
	if math.IsInf(f, 0) {
		v := new(big.Rat).SetInt(new(big.Int).Lsh(big.NewInt(1), 1024))
		if f < 0 {
			v.Neg(v)
		}
		return v
	}
	return new(big.Rat).SetFloat64(f)
}

// nearest tells whether a float, or an infinity, is the one nearest to a value,
// and of two the one whose last bit is 0: it asks the floats on both sides.
func nearest(f float64, v *big.Rat) bool {
	far := new(big.Rat).Sub(exactly(f), v)
	far.Abs(far)
	for _, side := range []float64{math.Inf(-1), math.Inf(1)} {
		if f == side {
			continue
		}
		other := new(big.Rat).Sub(exactly(math.Nextafter(f, side)), v)
		switch far.Cmp(other.Abs(other)) {
		case 1:
			return false
		case 0:
			if math.Float64bits(f)&1 != 0 {
				return false
			}
		}
	}
	return true
}

// modelRank is a number that is less where a float is ahead of another one.
func modelRank(f float64) *big.Int {
	bits := new(big.Int).SetUint64(math.Float64bits(f) &^ (1 << 63))
	switch {
	case f != f:
		return new(big.Int).Lsh(big.NewInt(1), 64)
	case math.Float64bits(f)>>63 != 0:
		return bits.Not(bits)
	}
	return bits
}
