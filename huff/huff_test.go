package huff_test

import (
	"bytes"
	"compress/flate"
	"io"
	"math"
	"math/rand"
	"slices"
	"strconv"
	"strings"
	"testing"

	"crossdock/api"
	"crossdock/bits"
	"crossdock/huff"
)

// rowsOf is each sign's code as a row of figures 0 and 1 (empty, if it has none), as the chapter tells them.
func rowsOf(lengths []int) []string {
	rows := make([]string, len(lengths))
	next := 0
	for length := 1; length <= 15; length++ {
		for sign := range lengths {
			if lengths[sign] == length {
				row := strconv.FormatInt(int64(next), 2)
				rows[sign] = strings.Repeat("0", length-len(row)) + row
				next++
			}
		}
		next *= 2
	}
	return rows
}

// refusal is the error that New owes to lengths. A code of a length is held for its share of all rows of 15 bits.
func refusal(lengths []int, lone bool) error {
	if len(lengths) > 320 {
		return api.ErrLong
	}
	shares, coded, ones := 0, 0, 0
	for _, length := range lengths {
		if length < 0 || length > 15 {
			return api.ErrRange
		}
		if length > 0 {
			shares += 1 << (15 - length)
			coded++
		}
		if length == 1 {
			ones++
		}
	}
	switch {
	case shares > 1<<15:
		return api.ErrMany
	case shares == 1<<15:
		return nil
	case lone && (coded == 0 || coded == 1 && ones == 1):
		return nil
	}
	return api.ErrForm
}

// taken is what Take owes to the rows of a code: the sign, how many bits the reader goes on, and the error.
func taken(rows []string, rest string) (sign, gone int, err error) {
	err = api.ErrForm
	for sign, row := range rows {
		if row != "" && strings.HasPrefix(rest, row) {
			return sign, len(row), nil
		}
		if row != "" && strings.HasPrefix(row, rest) {
			err = api.ErrEnd
		}
	}
	return 0, 0, err
}

// figures is the bits of bytes from one of them on, as a row of figures.
func figures(b []byte, at int) string {
	var row strings.Builder
	for i := at; i < 8*len(b); i++ {
		row.WriteByte('0' + b[i/8]>>(i%8)&1)
	}
	return row.String()
}

// readerAt is a reader of bytes that is at the bit.
func readerAt(b []byte, at int) *bits.Reader {
	r := bits.NewReader(b)
	for r.At() < at {
		r.Bits(min(32, at-r.At()))
	}
	return r
}

// made is the code of lengths that are right.
func made(t *testing.T, lengths []int, lone bool) *huff.Code {
	t.Helper()
	c, err := huff.New(lengths, lone)
	if c == nil || err != nil {
		t.Fatalf("New(%v, %t): %v", lengths, lone, err)
	}
	return c
}

// asked asks New, and, if there is a code, each of its signs.
func asked(t *testing.T, lengths []int, lone bool) *huff.Code {
	t.Helper()
	c, err := huff.New(lengths, lone)
	want := refusal(lengths, lone)
	if err != want || (c == nil) != (want != nil) {
		t.Fatalf("New(%v, %t): %v, %v: want %v", lengths, lone, c, err, want)
	}
	if c != nil {
		askedSigns(t, c, lengths)
	}
	return c
}

// askedSigns asks each sign's code, those beside the signs, and how many there are.
func askedSigns(t *testing.T, c *huff.Code, lengths []int) {
	t.Helper()
	if c.Len() != len(lengths) {
		t.Fatalf("Len of %v: %d", lengths, c.Len())
	}
	for sign, row := range rowsOf(lengths) {
		want, _ := strconv.ParseInt("0"+row, 2, 32)
		if code, length := c.Of(sign); code != int(want) || length != len(row) {
			t.Fatalf("Of(%d) of %v: %b, %d: want %s", sign, lengths, code, length, row)
		}
	}
	for _, sign := range strangers(len(lengths)) {
		if code, length := c.Of(sign); code != 0 || length != 0 {
			t.Fatalf("Of(%d) of %v: %b, %d", sign, lengths, code, length)
		}
	}
}

// strangers are signs that aren't there.
func strangers(count int) []int {
	return []int{-1, -2, -count, -count - 1, count, count + 1, 320, 321, 1 << 16, 1 << 32, math.MaxInt, math.MinInt}
}

// askedTake asks what is taken from the bit of bytes on, and where the reader is then.
func askedTake(t *testing.T, c *huff.Code, rows []string, b []byte, at int) {
	t.Helper()
	r := readerAt(b, at)
	sign, err := c.Take(r)
	want, gone, wantErr := taken(rows, figures(b, at))
	if sign != want || err != wantErr {
		t.Fatalf("Take of %s by %v: %d, %v: want %d, %v", figures(b, at), rows, sign, err, want, wantErr)
	}
	if r.At() != at+gone {
		t.Fatalf("behind Take of %s by %v: at %d: want %d", figures(b, at), rows, r.At(), at+gone)
	}
}

// eachList goes through all lists of so many lengths, each from 0 to the highest one.
func eachList(count, highest int, do func(lengths []int)) {
	lengths := make([]int, count)
	for {
		do(lengths)
		i := 0
		for i < count && lengths[i] == highest {
			lengths[i] = 0
			i++
		}
		if i == count {
			return
		}
		lengths[i]++
	}
}

// fullLengths is lengths that are full, of at most so many signs with a code, with some that have none between.
func fullLengths(rnd *rand.Rand, coded int) []int {
	lengths := []int{1, 1}
	for len(lengths) < coded {
		i := rnd.Intn(len(lengths))
		if rnd.Intn(3) == 0 {
			i = len(lengths) - 1 // deep rows, too
		}
		if lengths[i] < 15 {
			lengths[i]++
			lengths = append(lengths, lengths[i])
		}
	}
	lengths = append(lengths, make([]int, rnd.Intn(321-len(lengths)))...)
	rnd.Shuffle(len(lengths), func(i, j int) { lengths[i], lengths[j] = lengths[j], lengths[i] })
	return lengths
}

// chain is the lengths 1, 2, .. 15, and 15 once more: each row of 14 bits 1 begins a code, and is none.
func chain() []int {
	lengths := []int{}
	for length := range 15 {
		lengths = append(lengths, length+1)
	}
	return append(lengths, 15)
}

// widest is 320 lengths that are full, the last sign's among them.
func widest() []int {
	return slices.Concat(slices.Repeat([]int{9}, 128), slices.Repeat([]int{8}, 192))
}

// P7.1: the chapter's example, bit by bit.
func TestKnown(t *testing.T) {
	lengths := []int{2, 1, 3, 3}
	c := made(t, lengths, false)
	for sign, want := range []int{0b10, 0b0, 0b110, 0b111} {
		if code, length := c.Of(sign); code != want || length != lengths[sign] {
			t.Errorf("Of(%d): %b, %d: want %b", sign, code, length, want)
		}
	}
	w := bits.NewWriter()
	for sign := range 4 {
		if err := c.Put(w, sign); err != nil {
			t.Errorf("Put of %d: %v", sign, err)
		}
	}
	if got := figures(w.Text(), 0); w.Len() != 9 || got != "1001101110000000" {
		t.Errorf("%d bits: %s", w.Len(), got)
	}
	// The lengths of the specification of packed bytes, in its section 3.2.2.
	c = made(t, []int{3, 3, 3, 3, 3, 2, 4, 4}, false)
	for sign, want := range []int{0b010, 0b011, 0b100, 0b101, 0b110, 0b00, 0b1110, 0b1111} {
		if code, _ := c.Of(sign); code != want {
			t.Errorf("Of(%d): %b: want %b", sign, code, want)
		}
	}
}

// P7.1: all short lists of short lengths, and all lists of three of any length, one beyond the bound among them.
func TestNewEverywhere(t *testing.T) {
	for _, lone := range []bool{false, true} {
		for count := range 7 {
			eachList(count, 4, func(lengths []int) { asked(t, lengths, lone) })
		}
		for count := range 4 {
			eachList(count, 16, func(lengths []int) { asked(t, lengths, lone) })
		}
	}
}

// P7.1: no lengths, be they nil or empty, and lengths of which none has a code.
func TestNewOfNothing(t *testing.T) {
	for _, lengths := range [][]int{nil, {}, make([]int, 0, 9), {0}, make([]int, 2), make([]int, 319), make([]int, 320)} {
		if c, err := huff.New(lengths, false); c != nil || err != api.ErrForm {
			t.Errorf("%d lengths of 0, not lone: %v", len(lengths), err)
		}
		c := made(t, lengths, true)
		askedSigns(t, c, lengths)
		for _, b := range [][]byte{nil, {0}, {1}, {0xff, 0xff}} {
			for at := range 8*len(b) + 1 {
				r := readerAt(b, at)
				if sign, err := c.Take(r); sign != 0 || err != api.ErrForm || r.At() != at {
					t.Errorf("Take of %x at %d without any code: %d, %v, at %d", b, at, sign, err, r.At())
				}
			}
		}
	}
}

// P7.1: 320 lengths are a code, 321 aren't, whatever they are.
func TestNewLong(t *testing.T) {
	c := asked(t, widest(), false)
	if code, length := c.Of(319); code != 191 || length != 8 {
		t.Errorf("Of(319): %d, %d", code, length)
	}
	if code, length := c.Of(127); code != 511 || length != 9 {
		t.Errorf("Of(127): %d, %d", code, length)
	}
	for _, lengths := range [][]int{
		append(widest(), 0), append(widest(), 8), append(widest(), 16), append(widest(), -1),
		make([]int, 321), make([]int, 322), slices.Repeat([]int{15}, 321), slices.Repeat([]int{1}, 321), slices.Repeat([]int{16}, 400), slices.Repeat([]int{8}, 512), slices.Repeat([]int{15}, 1<<15),
	} {
		for _, lone := range []bool{false, true} {
			if c, err := huff.New(lengths, lone); c != nil || err != api.ErrLong {
				t.Errorf("%d lengths, %t: %v", len(lengths), lone, err)
			}
		}
	}
}

// P7.1: a length that is none, wherever it stands, and whatever else is wrong.
func TestNewRange(t *testing.T) {
	for _, wrong := range []int{-1, -2, -15, -16, 16, 17, 31, 32, 64, 255, 256, 1 << 31, 1 << 32, 1<<32 + 1, math.MaxInt, math.MinInt, math.MinInt + 1} {
		for _, lengths := range [][]int{
			{wrong}, {wrong, 1, 1}, {1, wrong, 1}, {1, 1, wrong}, {1, 1, 1, wrong}, {wrong, 1, 1, 1}, {0, wrong}, {1, wrong}, {2, wrong}, {wrong, wrong},
			append(widest()[:319:319], wrong), append(slices.Repeat([]int{1}, 319), wrong),
		} {
			for _, lone := range []bool{false, true} {
				if c, err := huff.New(lengths, lone); c != nil || err != api.ErrRange {
					t.Errorf("New(%v, %t): %v", lengths, lone, err)
				}
			}
		}
	}
	// The bounds themselves.
	asked(t, append(chain(), 0), false)
	asked(t, append([]int{0}, chain()...), true)
}

// P7.1: full lengths with one code more, and with one less.
func TestNewByOneCode(t *testing.T) {
	rnd := rand.New(rand.NewSource(7))
	lists := [][]int{{1, 1}, {2, 1, 3, 3}, chain(), widest()[:318:318]}
	for range 60 {
		lists = append(lists, fullLengths(rnd, 2+rnd.Intn(200)))
	}
	for _, lengths := range lists {
		for _, lone := range []bool{false, true} {
			asked(t, lengths, lone)
			for _, more := range []int{1, 2, 8, 14, 15} {
				asked(t, append(slices.Clone(lengths), more), lone)
				asked(t, append([]int{more}, lengths...), lone)
			}
			sign := rnd.Intn(len(lengths))
			less := slices.Clone(lengths)
			less[sign] = 0
			asked(t, less, lone)
			if lengths[sign] > 0 && lengths[sign] < 15 {
				less[sign] = lengths[sign] + 1
				asked(t, less, lone)
			}
		}
	}
	for _, lengths := range [][]int{{1, 1, 15}, {1, 1, 1}, append(chain(), 15), slices.Repeat([]int{1}, 320), slices.Repeat([]int{2}, 5), slices.Repeat([]int{8}, 257)} {
		if c, err := huff.New(lengths, true); c != nil || err != api.ErrMany {
			t.Errorf("New(%v): %v", lengths, err)
		}
	}
	for _, lengths := range [][]int{{1, 2}, chain()[:15], chain()[1:], slices.Repeat([]int{8}, 255), slices.Repeat([]int{15}, 320)} {
		if c, err := huff.New(lengths, true); c != nil || err != api.ErrForm {
			t.Errorf("New(%v): %v", lengths, err)
		}
	}
}

// P7.1: a sign alone has a code if it has one bit, and lone lengths may be.
func TestNewLone(t *testing.T) {
	for _, count := range []int{1, 2, 30, 320} {
		for _, sign := range []int{0, count / 2, count - 1} {
			for length := 1; length <= 15; length++ {
				lengths := make([]int, count)
				lengths[sign] = length
				if c, err := huff.New(lengths, false); c != nil || err != api.ErrForm {
					t.Errorf("one length of %d, not lone: %v", length, err)
				}
				c, err := huff.New(lengths, true)
				if length > 1 {
					if c != nil || err != api.ErrForm {
						t.Errorf("one length of %d, lone: %v", length, err)
					}
					continue
				}
				if err != nil {
					t.Fatalf("one length of 1, lone: %v", err)
				}
				askedSigns(t, c, lengths)
				for x := range 256 {
					for at := range 9 {
						askedTake(t, c, rowsOf(lengths), []byte{byte(x)}, at)
					}
				}
			}
		}
	}
}

// P7.1: lone doesn't forbid codes that are full.
func TestLoneAndFull(t *testing.T) {
	rnd := rand.New(rand.NewSource(11))
	for range 100 {
		lengths := fullLengths(rnd, 2+rnd.Intn(60))
		first, second := made(t, lengths, false), made(t, lengths, true)
		askedSigns(t, first, lengths)
		askedSigns(t, second, lengths)
	}
}

// P7.1: each short code takes from all rows of up to eight bits what it must, and the reader is where it must be.
func TestTakeEverywhere(t *testing.T) {
	for count := range 6 {
		eachList(count, 4, func(lengths []int) {
			c, err := huff.New(lengths, true)
			if err != nil {
				return
			}
			rows := rowsOf(lengths)
			askedTake(t, c, rows, nil, 0)
			for x := 0; x < 256; x += 1 + count {
				for at := range 9 {
					askedTake(t, c, rows, []byte{byte(x)}, at)
				}
			}
		})
	}
}

// P7.1: long codes, of which the end of the bytes lets all, some, or no bits stand.
func TestTakeLong(t *testing.T) {
	rnd := rand.New(rand.NewSource(13))
	lists := [][]int{chain(), append([]int{15}, chain()[:15]...), append(make([]int, 300), chain()...)}
	for range 20 {
		lists = append(lists, fullLengths(rnd, 2+rnd.Intn(200)))
	}
	for _, lengths := range lists {
		c := made(t, lengths, false)
		rows := rowsOf(lengths)
		texts := [][]byte{{0xff, 0xff, 0xff}, {0, 0, 0}, {0xff, 0x3f}, {0xff, 0x7f}, {0xfe, 0xff}}
		for range 20 {
			b := make([]byte, 1+rnd.Intn(5))
			rnd.Read(b)
			texts = append(texts, b)
		}
		for _, b := range texts {
			for at := range 8*len(b) + 1 {
				askedTake(t, c, rows, b, at)
			}
		}
	}
}

// P7.1: each code whole, and with each lack of bits at its end.
func TestTakeCutShort(t *testing.T) {
	lengths := chain()
	c := made(t, lengths, false)
	for sign, row := range rowsOf(lengths) {
		for cut := range len(row) + 1 {
			// The bits stand at the end of the bytes, behind as many bits 0 as it needs.
			w := bits.NewWriter()
			begin := (8 - cut%8) % 8
			w.Put(0, begin)
			for _, figure := range row[:cut] {
				w.Put(uint32(figure-'0'), 1)
			}
			r := readerAt(w.Text(), begin)
			got, err := c.Take(r)
			if cut == len(row) && (got != sign || err != nil || r.Left() != 0) {
				t.Errorf("Take of %s: %d, %v, %d left", row, got, err, r.Left())
			}
			if cut < len(row) && (got != 0 || err != api.ErrEnd || r.At() != begin) {
				t.Errorf("Take of %d bits of %s: %d, %v, at %d", cut, row, got, err, r.At())
			}
		}
	}
}

// P7.1: a refused Take may be called again, and other calls of the reader go on from where it was.
func TestTakeAgain(t *testing.T) {
	c := made(t, []int{0, 1}, true)
	r := bits.NewReader([]byte{0b10110100})
	for i, want := range []error{nil, nil, api.ErrForm, api.ErrForm} {
		if _, err := c.Take(r); err != want {
			t.Errorf("step %d: %v: want %v", i, err, want)
		}
	}
	if x, err := r.Bits(6); x != 0b101101 || err != nil {
		t.Errorf("behind Take: %b, %v", x, err)
	}
	if _, err := c.Take(r); err != api.ErrEnd || r.At() != 8 {
		t.Errorf("at the end: %v, at %d", err, r.At())
	}
}

// P7.1: Put of signs that have a code, that have none, and that aren't there, behind each number of bits of a byte.
func TestPut(t *testing.T) {
	for _, lengths := range [][]int{nil, {0}, {0, 1, 0}, {2, 1, 3, 3}, {2, 0, 1, 0, 3, 3, 0}, chain(), widest()} {
		c := made(t, lengths, true)
		rows := rowsOf(lengths)
		for at := range 9 {
			for sign, row := range rows {
				askedPut(t, c, at, sign, row)
			}
			for _, sign := range strangers(len(lengths)) {
				askedPut(t, c, at, sign, "")
			}
		}
	}
}

// askedPut asks what is written by Put behind so many bits; without a row it is refused, and nothing is.
func askedPut(t *testing.T, c *huff.Code, at, sign int, row string) {
	t.Helper()
	w := bits.NewWriter()
	for i := range at {
		w.Put(uint32(i+1)&1, 1)
	}
	was := figures(w.Text(), 0)[:at]
	err := c.Put(w, sign)
	if row == "" && err != api.ErrRange || row != "" && err != nil {
		t.Fatalf("Put of %d: %v", sign, err)
	}
	want := was + row
	if got := figures(w.Text(), 0); w.Len() != len(want) || got[:len(want)] != want {
		t.Fatalf("behind Put of %d: %s of %d bits: want %s", sign, got, w.Len(), want)
	}
}

// P7.1: a nil code tells ErrNone, whatever is asked, or nothing.
func TestNilCode(t *testing.T) {
	var c *huff.Code
	for _, sign := range append(strangers(0), 0, 1, 256) {
		w := bits.NewWriter()
		if err := c.Put(w, sign); err != api.ErrNone || w.Len() != 0 {
			t.Errorf("Put of %d of nil: %v, %d bits", sign, err, w.Len())
		}
		if err := c.Put(nil, sign); err != api.ErrNone {
			t.Errorf("Put of %d of nil, to nil: %v", sign, err)
		}
		if code, length := c.Of(sign); code != 0 || length != 0 {
			t.Errorf("Of(%d) of nil: %d, %d", sign, code, length)
		}
	}
	for _, b := range [][]byte{nil, {0}, {0xff, 0xff}} {
		r := bits.NewReader(b)
		if sign, err := c.Take(r); sign != 0 || err != api.ErrNone || r.At() != 0 {
			t.Errorf("Take of nil: %d, %v, at %d", sign, err, r.At())
		}
	}
	if sign, err := c.Take(nil); sign != 0 || err != api.ErrNone || c.Len() != 0 {
		t.Errorf("Take of nil, from nil: %d, %v", sign, err)
	}
}

// P7.1: a nil reader tells ErrNone, also to a code without any; a nil writer does so where the sign has a code.
func TestNilReaderAndWriter(t *testing.T) {
	for _, lengths := range [][]int{nil, {0, 0}, {0, 1}, {2, 1, 0, 3, 3}, chain()} {
		c := made(t, lengths, true)
		if sign, err := c.Take(nil); sign != 0 || err != api.ErrNone {
			t.Errorf("Take from nil by %v: %d, %v", lengths, sign, err)
		}
		for sign, length := range lengths {
			want := api.ErrNone
			if length == 0 {
				want = api.ErrRange
			}
			if err := c.Put(nil, sign); err != want {
				t.Errorf("Put of %d to nil by %v: %v: want %v", sign, lengths, err, want)
			}
		}
		for _, sign := range strangers(len(lengths)) {
			if err := c.Put(nil, sign); err != api.ErrRange {
				t.Errorf("Put of %d to nil by %v: %v", sign, lengths, err)
			}
		}
	}
}

// P7.1: the fixed lengths, and the codes that they tell.
func TestFixed(t *testing.T) {
	letters, distances := huff.Fixed()
	if len(letters) != 288 || len(distances) != 30 {
		t.Fatalf("%d letters, %d distances", len(letters), len(distances))
	}
	for _, part := range []struct{ from, to, length, first int }{{0, 143, 8, 0b00110000}, {144, 255, 9, 0b110010000}, {256, 279, 7, 0}, {280, 287, 8, 0b11000000}} {
		c := asked(t, letters, false)
		for sign := part.from; sign <= part.to; sign++ {
			if letters[sign] != part.length {
				t.Errorf("letter %d: %d", sign, letters[sign])
			}
			if code, length := c.Of(sign); code != part.first+sign-part.from || length != part.length {
				t.Errorf("Of(%d): %b, %d", sign, code, length)
			}
		}
	}
	for sign, length := range distances {
		if length != 5 {
			t.Errorf("distance %d: %d", sign, length)
		}
	}
	for _, lone := range []bool{false, true} {
		if c, err := huff.New(distances, lone); c != nil || err != api.ErrForm {
			t.Errorf("30 distances: %v", err)
		}
		c := asked(t, append(distances, 5, 5), lone)
		if code, length := c.Of(31); code != 31 || length != 5 {
			t.Errorf("Of(31): %b, %d", code, length)
		}
	}
}

// P7.1: what is written by the fixed letters' code is read by a program of another hand.
func TestFixedElsewhere(t *testing.T) {
	letters, _ := huff.Fixed()
	c := made(t, letters, false)
	text := make([]byte, 1000)
	rand.New(rand.NewSource(17)).Read(text)
	w := bits.NewWriter()
	w.Put(1, 1)
	w.Put(1, 2)
	for _, x := range text {
		if err := c.Put(w, int(x)); err != nil {
			t.Fatal(err)
		}
	}
	if err := c.Put(w, 256); err != nil {
		t.Fatal(err)
	}
	got, err := io.ReadAll(flate.NewReader(bytes.NewReader(w.Text())))
	if !bytes.Equal(got, text) || err != nil {
		t.Errorf("%d bytes, %v", len(got), err)
	}
}

// Rule 5: the lengths are neither changed, spare room included, nor kept.
func TestNewKeepsNothing(t *testing.T) {
	whole := append(chain(), 7, 8, 9)
	was := slices.Clone(whole)
	c := made(t, whole[:16:19], false)
	if !slices.Equal(whole, was) {
		t.Error("the lengths were changed")
	}
	clear(whole)
	askedSigns(t, c, chain())
	for at := range 17 {
		askedTake(t, c, rowsOf(chain()), []byte{0xbf, 0xf7}, at)
	}
	if !slices.Equal(whole, make([]int, 19)) {
		t.Error("the lengths are written to")
	}
}

// Rule 5: the fixed lengths are new memory each time, and share none with each other.
func TestFixedIsNew(t *testing.T) {
	letters, distances := huff.Fixed()
	clear(letters[:cap(letters)])
	if slices.Contains(distances, 0) {
		t.Error("the letters share memory with the distances")
	}
	letters, distances = huff.Fixed()
	if slices.Contains(letters, 0) {
		t.Error("the letters share memory with those of an earlier call")
	}
	clear(distances[:cap(distances)])
	if slices.Contains(letters, 0) {
		t.Error("the distances share memory with the letters")
	}
	if _, distances = huff.Fixed(); slices.Contains(distances, 0) {
		t.Error("the distances share memory with those of an earlier call")
	}
}

// P7.1: two codes have nothing to do with each other, and calls in any order change none.
func TestApart(t *testing.T) {
	first, second := []int{2, 1, 3, 3}, []int{1, 0, 2, 2}
	one, other := made(t, first, false), made(t, second, false)
	rnd := rand.New(rand.NewSource(19))
	for range 500 {
		x := byte(rnd.Intn(256))
		askedTake(t, one, rowsOf(first), []byte{x}, rnd.Intn(9))
		askedTake(t, other, rowsOf(second), []byte{x}, rnd.Intn(9))
		w := bits.NewWriter()
		one.Put(w, rnd.Intn(6)-1)
		other.Put(w, rnd.Intn(6)-1)
	}
	askedSigns(t, one, first)
	askedSigns(t, other, second)
}

// putAndTaken puts signs, one behind the other, behind a few bits, and asks that they are taken.
func putAndTaken(t *testing.T, c *huff.Code, signs []int, at int) {
	t.Helper()
	w := bits.NewWriter()
	w.Put(0, at)
	want := at
	for _, sign := range signs {
		if err := c.Put(w, sign); err != nil {
			t.Fatalf("Put of %d: %v", sign, err)
		}
		_, length := c.Of(sign)
		if want += length; w.Len() != want {
			t.Fatalf("behind Put of %d: %d bits: want %d", sign, w.Len(), want)
		}
	}
	r := readerAt(w.Text(), at)
	for i, want := range signs {
		if sign, err := c.Take(r); sign != want || err != nil {
			t.Fatalf("the sign %d of %d: %d, %v: want %d", i, len(signs), sign, err, want)
		}
	}
	if r.At() != w.Len() {
		t.Fatalf("behind all signs: at %d: want %d", r.At(), w.Len())
	}
}

// codedSigns is the signs that have a code.
func codedSigns(lengths []int) []int {
	signs := []int{}
	for sign, length := range lengths {
		if length > 0 {
			signs = append(signs, sign)
		}
	}
	return signs
}

// P7.2: what is put is taken, of any right code, each sign, and any signs one behind the other.
func TestPutAndTaken(t *testing.T) {
	letters, _ := huff.Fixed()
	lists := [][]int{{1}, {0, 0, 1}, {1, 1}, {2, 1, 3, 3}, chain(), widest(), letters, slices.Repeat([]int{5}, 32)}
	rnd := rand.New(rand.NewSource(23))
	for range 150 {
		lists = append(lists, fullLengths(rnd, 2+rnd.Intn(319)))
	}
	for _, lengths := range lists {
		c := made(t, lengths, true)
		coded := codedSigns(lengths)
		putAndTaken(t, c, coded, rnd.Intn(9))
		for range 10 {
			signs := make([]int, rnd.Intn(200))
			for i := range signs {
				signs[i] = coded[rnd.Intn(len(coded))]
			}
			putAndTaken(t, c, signs, rnd.Intn(9))
		}
	}
}

// P7.2: no code begins with another one, and of each length they rise with the signs.
func TestNoneBeginsWithAnother(t *testing.T) {
	rnd := rand.New(rand.NewSource(29))
	lists := [][]int{{1}, {1, 1}, chain(), widest()}
	for range 60 {
		lists = append(lists, fullLengths(rnd, 2+rnd.Intn(319)))
	}
	for count := range 6 {
		eachList(count, 4, func(lengths []int) {
			if refusal(lengths, true) == nil {
				lists = append(lists, slices.Clone(lengths))
			}
		})
	}
	for _, lengths := range lists {
		askedApart(t, made(t, lengths, true), codedSigns(lengths))
	}
}

// askedApart asks each two codes of signs whether one begins with the other.
func askedApart(t *testing.T, c *huff.Code, signs []int) {
	t.Helper()
	for i, sign := range signs {
		code, length := c.Of(sign)
		if length < 1 || length > 15 || code < 0 || code >= 1<<length {
			t.Fatalf("Of(%d): %b in %d bits", sign, code, length)
		}
		for _, other := range signs[i+1:] {
			otherCode, otherLength := c.Of(other)
			both := min(length, otherLength)
			if code>>(length-both) == otherCode>>(otherLength-both) {
				t.Fatalf("the codes of %d and %d: %b in %d bits, %b in %d", sign, other, code, length, otherCode, otherLength)
			}
			if length == otherLength && code > otherCode {
				t.Fatalf("the codes of %d and %d, of %d bits, fall: %b, %b", sign, other, length, code, otherCode)
			}
		}
	}
}
