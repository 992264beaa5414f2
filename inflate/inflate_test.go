package inflate_test

import (
	"bytes"
	"compress/flate"
	"io"
	"math"
	"math/rand"
	"slices"
	"strings"
	"testing"

	"crossdock/api"
	"crossdock/inflate"
)

// answered asks for a result that there must be.
func answered(t *testing.T, name string, b []byte, limit int, want inflate.Result) {
	t.Helper()
	r, err := inflate.Inflate(b, limit)
	if err != nil || !same(r, want) {
		t.Errorf("%s, limit %d: %d bytes, used %d, steps %d, %v: want %d bytes, used %d, steps %d", name, limit, len(r.Text), r.Used, r.Steps, err, len(want.Text), want.Used, want.Steps)
	}
}

// refused asks for an error, beside which there must be nothing.
func refused(t *testing.T, name string, b []byte, limit int, want api.Errno) {
	t.Helper()
	r, err := inflate.Inflate(b, limit)
	if err != want || !same(r, inflate.Result{}) {
		t.Errorf("%s, limit %d: %v, %v: want %v", name, limit, r, err, want)
	}
}

func same(a, b inflate.Result) bool {
	return bytes.Equal(a.Text, b.Text) && a.Used == b.Used && a.Steps == b.Steps
}

// whole asks for what was packed: at limits from just enough on, with other bytes behind, one short, and cut at each byte.
func whole(t *testing.T, name string, p *packer) {
	t.Helper()
	b := p.bytes()
	want := inflate.Result{Text: p.text, Used: len(b), Steps: p.steps}
	answered(t, name, b, len(p.text), want)
	answered(t, name, b, api.MaxBytes, want)
	answered(t, name+" with others behind", append(slices.Clone(b), 0, 255, 7), len(p.text), want)
	if len(p.text) > 0 {
		refused(t, name, b, len(p.text)-1, api.ErrLong)
		refused(t, name, b, 0, api.ErrLong)
	}
	for n := range b {
		refused(t, name+" cut", b[:n], len(p.text), api.ErrEnd)
	}
}

// wrong asks for an error of a row, at limits that have nothing to do with it.
func wrong(t *testing.T, name, row string, want api.Errno) {
	t.Helper()
	refused(t, name, bytesOf(row), 1000, want)
	refused(t, name, bytesOf(row), api.MaxBytes, want)
}

func TestExample(t *testing.T) {
	answered(t, "the example", []byte{1, 1, 0, 254, 255, 65}, 1, inflate.Result{Text: []byte("A"), Used: 6, Steps: 2})
	answered(t, "an empty block of kind 1", []byte{3, 0}, 0, inflate.Result{Used: 2, Steps: 2})
}

func TestLimit(t *testing.T) {
	right := []byte{1, 1, 0, 254, 255, 65}
	for _, limit := range []int{math.MinInt, -1 << 32, -1, 1<<20 + 1, 1 << 32, math.MaxInt} {
		refused(t, "right bytes", right, limit, api.ErrRange)
		refused(t, "no bytes", nil, limit, api.ErrRange)
		refused(t, "kind 3", []byte{7}, limit, api.ErrRange)
	}
	for _, limit := range []int{0, 1, 1<<20 - 1, 1 << 20} {
		refused(t, "no bytes", nil, limit, api.ErrEnd)
		refused(t, "no bytes", []byte{}, limit, api.ErrEnd)
		refused(t, "kind 3", []byte{7}, limit, api.ErrForm)
		answered(t, "nothing put out", []byte{3, 0}, limit, inflate.Result{Used: 2, Steps: 2})
	}
}

// TestMost puts out as many bytes as there may be, and one more, by each of the ways.
func TestMost(t *testing.T) {
	const most = 1 << 20
	for _, more := range []int{0, 1} {
		plain := &packer{}
		for left := most + more; left > 0; left -= min(left, 65535) {
			plain.plain(left <= 65535, strings.Repeat("p", min(left, 65535)))
		}
		letters := &packer{}
		b := letters.told(true, lengthsOf(257, map[int]int{'x': 1, 256: 1}), []int{0})
		b.put(strings.Repeat("x", most+more))
		b.end()
		repeats := &packer{}
		b = repeats.fixed(true)
		b.put("r")
		for left := most + more - 1; left > 0; {
			length := min(left, 258)
			if left-length == 1 || left-length == 2 {
				length -= 3
			}
			b.repeat(length, 1)
			left -= length
		}
		b.end()
		for i, p := range []*packer{plain, letters, repeats} {
			if len(p.text) != most+more {
				t.Fatal(i, len(p.text))
			}
			packed := p.bytes()
			if more == 0 {
				answered(t, "most", packed, most, inflate.Result{Text: p.text, Used: len(packed), Steps: p.steps})
				refused(t, "most", packed, most-1, api.ErrLong)
			} else {
				refused(t, "one more", packed, most, api.ErrLong)
			}
		}
	}
}

func TestKinds(t *testing.T) {
	p := &packer{}
	p.plain(true, "")
	whole(t, "kind 0 of no bytes", p)

	p = &packer{}
	p.plain(true, strings.Repeat("0123456789", 6553)+"01234")
	b := p.bytes()
	answered(t, "kind 0 of most bytes", b, 65535, inflate.Result{Text: p.text, Used: 65540, Steps: 65536})
	refused(t, "kind 0 of most bytes", b, 65534, api.ErrLong)
	refused(t, "kind 0 of most bytes, cut", b[:65539], 65535, api.ErrEnd)

	p = &packer{}
	p.fixed(true).end()
	whole(t, "kind 1 of no letter", p)

	p = &packer{}
	f := p.fixed(true)
	for letter := range 256 {
		f.put(string([]byte{byte(letter)}))
	}
	f.end()
	whole(t, "kind 1 of all letters", p)

	p = &packer{}
	p.told(true, lengthsOf(257, map[int]int{7: 1, 256: 1}), []int{0}).end()
	whole(t, "kind 2 of no letter", p)
}

// TestBehind puts each kind behind each other one, at each place within a byte.
func TestBehind(t *testing.T) {
	letters := lengthsOf(259, map[int]int{'a': 1, 'b': 2, 256: 3, 258: 3})
	put := func(p *packer, kind int, last bool) {
		switch kind {
		case 0:
			p.plain(last, "plain")
		case 1:
			b := p.fixed(last)
			b.put("fixed\xff")
			b.repeat(5, 3)
			b.end()
		case 2:
			b := p.told(last, letters, []int{1, 0, 1})
			b.put("abba")
			b.repeat(4, 3)
			b.repeat(4, 1)
			b.end()
		}
	}
	for kinds := range 27 {
		for turn := range 8 {
			p := &packer{}
			for range turn { // empty blocks of 10 bits each
				p.fixed(false).end()
			}
			put(p, kinds/9, false)
			put(p, kinds/3%3, false)
			put(p, kinds%3, true)
			whole(t, "three blocks", p)
		}
	}
}

// TestUsed asks how many bytes were used where the last bit is each one of its byte.
func TestUsed(t *testing.T) {
	places := map[int]bool{}
	for n := range 8 {
		p := &packer{}
		b := p.fixed(true)
		b.put(strings.Repeat("\xff", n)) // nine bits each
		b.end()
		places[p.row.Len()%8] = true
		whole(t, "nines", p)
	}
	if len(places) != 8 {
		t.Error(places)
	}
}

// TestFar goes back over what blocks of other kinds put out.
func TestFar(t *testing.T) {
	p := &packer{}
	p.plain(false, "abc")
	b := p.fixed(false)
	b.repeat(3, 3)
	b.end()
	b = p.told(true, lengthsOf(258, map[int]int{256: 1, 257: 1}), lengthsOf(5, map[int]int{4: 1}))
	b.repeat(3, 6)
	b.end()
	whole(t, "back over blocks", p)
	if string(p.text) != "abcabcabc" {
		t.Error(string(p.text))
	}
}

// TestLengths tells each length by each letter that can tell it.
func TestLengths(t *testing.T) {
	for i, s := range lengthSpans() {
		for x := range 1 << s.bits {
			p := &packer{}
			b := p.fixed(true)
			b.put("ab")
			p.row.WriteString(b.letters[257+i] + num(x, s.bits) + b.distances[1])
			p.steps++
			for range s.least + x {
				p.text = append(p.text, p.text[len(p.text)-2])
			}
			b.end()
			whole(t, "a length", p)
		}
	}
}

// TestDistances goes back by each sign as little and as far as it can, and then one farther than there are bytes.
func TestDistances(t *testing.T) {
	text := make([]byte, 32768)
	rand.New(rand.NewSource(8)).Read(text)
	for i, s := range distanceSpans() {
		for _, x := range []int{0, 1<<s.bits - 1} {
			distance := s.least + x
			for _, have := range []int{distance, distance - 1} {
				p := &packer{}
				p.plain(false, string(text[:have]))
				b := p.fixed(true)
				p.row.WriteString(b.letters[257] + b.distances[i] + num(x, s.bits))
				b.end()
				if have < distance {
					refused(t, "one too far", p.bytes(), api.MaxBytes, api.ErrForm)
					refused(t, "one too far, and too long", p.bytes(), have, api.ErrForm)
					continue
				}
				for range 3 {
					p.text = append(p.text, p.text[len(p.text)-distance])
				}
				answered(t, "just so far", p.bytes(), have+3, inflate.Result{Text: p.text, Used: len(p.bytes()), Steps: p.steps + 1})
				refused(t, "just so far, and too long", p.bytes(), have+2, api.ErrLong)
			}
		}
	}
}

// TestMostBack has the greatest length at the greatest distance.
func TestMostBack(t *testing.T) {
	text := make([]byte, 32768)
	rand.New(rand.NewSource(9)).Read(text)
	p := &packer{}
	p.plain(false, string(text))
	b := p.fixed(true)
	b.repeat(258, 32768)
	b.end()
	answered(t, "most", p.bytes(), 33026, inflate.Result{Text: append(text, text[:258]...), Used: len(p.bytes()), Steps: p.steps})
	refused(t, "most", p.bytes(), 33025, api.ErrLong)
}

func TestNoBytesPutOut(t *testing.T) {
	for _, distance := range []int{1, 2, 32768} {
		p := &packer{}
		b := p.fixed(true)
		b.letterOf(3)
		b.distanceOf(distance)
		b.end()
		refused(t, "a length at first", p.bytes(), 1000, api.ErrForm)
		refused(t, "a length at first", p.bytes(), 0, api.ErrForm)
	}
}

func TestKindThree(t *testing.T) {
	for _, last := range []string{"0", "1"} {
		wrong(t, "kind 3", last+"11", api.ErrForm)
		wrong(t, "kind 3 behind another one", "010"+"0000000"+last+"11", api.ErrForm)
	}
	// Three blocks of ten bits, and two bits: the kind isn't whole.
	refused(t, "a kind cut", bytesOf(strings.Repeat("0100000000", 3)+"11"), 9, api.ErrEnd)
}

func TestTurned(t *testing.T) {
	for i := range 16 {
		row := "10000000" + num(5, 16) + num(65530^1<<i, 16)
		refused(t, "a bit not turned", bytesOf(row+rowOf([]byte("abcde"))), 5, api.ErrForm)
		refused(t, "a bit not turned, bytes lack", bytesOf(row), 5, api.ErrForm)
		refused(t, "a bit not turned, too long", bytesOf(row), 4, api.ErrForm)
	}
	right := bytesOf("10000000" + num(5, 16) + num(65530, 16) + rowOf([]byte("abcd")))
	refused(t, "too long, and bytes lack", right, 4, api.ErrLong)
	refused(t, "bytes lack", right, 5, api.ErrEnd)
	refused(t, "half a number", []byte{1, 5, 0, 0}, 0, api.ErrEnd)
	refused(t, "no number", []byte{1, 5, 0}, 0, api.ErrEnd)
	refused(t, "the same number", []byte{1, 5, 0, 5, 0, 1, 2, 3, 4, 5}, 9, api.ErrForm)
	refused(t, "none, and not turned", []byte{1, 0, 0, 0, 0}, 9, api.ErrForm)
}

func TestTooManySigns(t *testing.T) {
	for letters := 257; letters <= 288; letters++ {
		for distances := 1; distances <= 32; distances++ {
			p := &packer{}
			p.told(true, lengthsOf(letters, map[int]int{0: 1, 256: 1}), make([]int, distances)).end()
			if letters <= 286 && distances <= 30 {
				answered(t, "as many as there may be", p.bytes(), 0, inflate.Result{Used: len(p.bytes()), Steps: p.steps})
				continue
			}
			wrong(t, "too many", p.row.String(), api.ErrForm)
			// It is asked when all three numbers are read, and ahead of the helpers.
			refused(t, "too many, the third number cut", p.bytes()[:2], 9, api.ErrEnd)
			refused(t, "too many, helpers cut", p.bytes()[:3], 9, api.ErrForm)
		}
	}
}

// toldRow is a block of kind 2 up to its lengths, told by helpers with their further bits.
func toldRow(letters, distances int, told ...string) string {
	return "101" + headRow(letters, distances, flatHelpers()) + strings.Join(told, "")
}

// helper is a helper's row, of the flat code, and its further bits.
func helper(sign int, further string) string {
	return rowsOf(flatHelpers())[sign] + further
}

// helpersOf is helpers that tell lengths one by one.
func helpersOf(lengths ...int) string {
	row := ""
	for _, length := range lengths {
		row += helper(length, "")
	}
	return row
}

// zeros is helpers that tell 0 so many times, at least 11 times.
func zeros(n int) string {
	row := ""
	for n > 0 {
		times := min(n, 138)
		if rest := n - times; rest > 0 && rest < 11 {
			times -= 11
		}
		row += helper(18, num(times-11, 7))
		n -= times
	}
	return row
}

func TestHelperCode(t *testing.T) {
	for _, c := range []struct {
		name    string
		lengths map[int]int
	}{
		{"none", nil},
		{"lone", map[int]int{0: 1}},
		{"alone, of two bits", map[int]int{5: 2}},
		{"not full", map[int]int{0: 1, 1: 2}},
		{"overflow", map[int]int{0: 1, 1: 1, 2: 1}},
		{"overflow by the longest", map[int]int{0: 1, 1: 1, 18: 7}},
	} {
		row := "101" + headRow(257, 1, lengthsOf(19, c.lengths))
		wrong(t, "helpers "+c.name, row, api.ErrForm)
		wrong(t, "helpers "+c.name+", others behind", row+strings.Repeat("0", 600), api.ErrForm)
		cut := bytesOf(row)
		refused(t, "helpers "+c.name+", cut", cut[:len(cut)-1], 9, api.ErrEnd)
	}
}

// TestFewHelpers has as few helpers as tell the lengths, each of which stands at its place.
func TestFewHelpers(t *testing.T) {
	helpers := lengthsOf(19, map[int]int{18: 1, 1: 2, 0: 3, 16: 3})
	rows := rowsOf(helpers)
	row := "101" + num(0, 5) + num(0, 5) + num(18-4, 4)
	for _, helper := range helperSigns[:18] {
		row += num(helpers[helper], 3)
	}
	row += rows[1] + rows[18] + num(138-11, 7) + rows[18] + num(117-11, 7) + rows[1] + rows[0]
	row += "0" + "0" + "1"
	answered(t, "18 helpers", bytesOf(row), 2, inflate.Result{Text: []byte{0, 0}, Used: (len(row) + 7) / 8, Steps: 1 + 18 + 5 + 3})

	// Of four helpers no length but 0 can be told: there is no code of 256.
	helpers = lengthsOf(19, map[int]int{18: 1, 0: 1})
	rows = rowsOf(helpers)
	row = "101" + num(0, 5) + num(0, 5) + num(0, 4) + num(0, 3) + num(0, 3) + num(1, 3) + num(1, 3)
	row += rows[18] + num(127, 7) + rows[18] + num(109, 7)
	wrong(t, "four helpers", row, api.ErrForm)
}

func TestRepeatedLengths(t *testing.T) {
	one := func(row string) string { return toldRow(257, 1, row) }
	for _, further := range []string{"00", "10", "01", "11"} {
		wrong(t, "16 without a length ahead", one(helper(16, further)), api.ErrForm)
		wrong(t, "16 without a length ahead", one(helper(16, further)+strings.Repeat("0", 2000)), api.ErrForm)
	}

	// 16 stands behind a length, a 16, a 17 and an 18.
	row := toldRow(257, 1,
		helpersOf(4), helper(16, num(1, 2)), helper(16, num(0, 2)), // 8 of 4 bits
		helper(17, num(7, 3)), helper(16, num(3, 2)), // 16 of none
		helper(18, num(0, 7)), helper(16, num(0, 2)), // 14 of none
		zeros(256-38))
	wrong(t, "lengths lack", row, api.ErrEnd)
	row += helpersOf(1, 0) + "1000" + "1111" + "0"
	answered(t, "16 behind all others", bytesOf(row), 2, inflate.Result{Text: []byte{0, 7}, Used: (len(row) + 7) / 8, Steps: 1 + 19 + (3 + 2 + 2 + 2 + 2) + 3})
}

// TestGoesOn has a 16 that goes on from the letters to the distances.
func TestGoesOn(t *testing.T) {
	// The letters 0, 256 and 257 and the distances 0 and 1: lengths 1, 2, 2, and 2, 2, which aren't full.
	row := toldRow(258, 2, helpersOf(1), zeros(255), helpersOf(2), helper(16, num(0, 2)))
	wrong(t, "distances not full", row+strings.Repeat("0", 9), api.ErrForm)

	// With two more distances they are: 256 and 257 of two bits, and four distances of two bits.
	row = toldRow(258, 4, helpersOf(1), zeros(255), helpersOf(2), helper(16, num(2, 2)))
	row += "0" + "0" + "0" + "0" + "11" + "11" + "10"
	answered(t, "16 goes on", bytesOf(row), 7, inflate.Result{Text: make([]byte, 7), Used: (len(row) + 7) / 8, Steps: 1 + 19 + (1 + 2 + 1 + 1) + 6})

	// One more than there must be.
	row = toldRow(258, 4, helpersOf(1), zeros(255), helpersOf(2), helper(16, num(3, 2)))
	wrong(t, "16 beyond the lengths", row+strings.Repeat("0", 9), api.ErrForm)
}

// TestRuns tells each number of times that helpers can.
func TestRuns(t *testing.T) {
	for _, c := range []struct{ sign, least, bits int }{{16, 3, 2}, {17, 3, 3}, {18, 11, 7}} {
		for x := range 1 << c.bits {
			times := c.least + x
			row := toldRow(257, 1, helpersOf(1, 0), helper(c.sign, num(x, c.bits)), zeros(254-times), helpersOf(1, 0), "0", "1")
			helpers := 2 + 1 + len(zeros(254-times))/len(zeros(11)) + 2
			answered(t, "a run", bytesOf(row), 1, inflate.Result{Text: []byte{0}, Used: (len(row) + 7) / 8, Steps: 1 + 19 + helpers + 2})
		}
	}
}

// TestTooManyLengths tells the last lengths by runs of 0, which make no code wrong: there are just too many, by one and by as many as can be.
func TestTooManyLengths(t *testing.T) {
	ahead := helpersOf(1) + zeros(255) + helpersOf(1) + helpersOf(0)
	for distances := 1; distances <= 30; distances++ {
		left := distances - 1
		for _, c := range []struct{ sign, least, bits int }{{16, 3, 2}, {17, 3, 3}, {18, 11, 7}} {
			for x := range 1 << c.bits {
				row := toldRow(257, distances, ahead, helper(c.sign, num(x, c.bits)))
				switch {
				case left == 0: // the run isn't read as one
				case c.least+x > left:
					wrong(t, "too many lengths", row, api.ErrForm)
					wrong(t, "too many lengths", row+strings.Repeat("0", 200)+"1", api.ErrForm)
				case c.least+x == left:
					row += "0" + "1"
					answered(t, "just enough lengths", bytesOf(row), 1, inflate.Result{Text: []byte{0}, Used: (len(row) + 7) / 8, Steps: 1 + 19 + 6 + 2})
				default:
					refused(t, "too few lengths", bytesOf(row[:len(row)/8*8]), 9, api.ErrEnd)
				}
			}
		}
	}
}

func TestToldCodes(t *testing.T) {
	full := map[int]int{0: 1, 256: 1}
	for _, c := range []struct {
		name               string
		letters, distances map[int]int
		right              bool
	}{
		{"full, none", full, nil, true},
		{"full, lone", full, map[int]int{3: 1}, true},
		{"full, full", full, map[int]int{3: 1, 4: 1}, true},
		{"full, alone of two bits", full, map[int]int{3: 2}, false},
		{"full, not full", full, map[int]int{3: 1, 4: 2}, false},
		{"full, overflow", full, map[int]int{3: 1, 4: 1, 5: 1}, false},
		{"full, overflow by the longest", full, map[int]int{3: 1, 4: 1, 5: 15}, false},
		{"letters none", nil, nil, false},
		{"letters lone", map[int]int{256: 1}, nil, false},
		{"letters lone without 256", map[int]int{1: 1}, nil, false},
		{"letters alone of two bits", map[int]int{256: 2}, nil, false},
		{"letters not full", map[int]int{0: 1, 256: 2}, nil, false},
		{"letters not full by the longest", map[int]int{0: 1, 256: 2, 7: 3, 8: 4, 9: 5, 10: 6, 11: 7, 12: 8, 13: 9, 14: 10, 15: 11, 16: 12, 17: 13, 18: 14, 19: 15}, nil, false},
		{"letters full by the longest", map[int]int{0: 1, 256: 2, 7: 3, 8: 4, 9: 5, 10: 6, 11: 7, 12: 8, 13: 9, 14: 10, 15: 11, 16: 12, 17: 13, 18: 14, 19: 15, 20: 15}, nil, true},
		{"letters overflow", map[int]int{0: 1, 1: 1, 256: 1}, nil, false},
		{"no code of 256", map[int]int{0: 1, 1: 1}, nil, false},
		{"no code of 256, distances full", map[int]int{255: 1, 257: 1}, map[int]int{0: 1, 1: 1}, false},
		{"256 among the distances", map[int]int{0: 1, 1: 1}, map[int]int{0: 1}, false},
		{"both wrong", map[int]int{0: 1}, map[int]int{0: 2}, false},
	} {
		p := &packer{}
		b := p.told(true, lengthsOf(258, c.letters), lengthsOf(7, c.distances))
		codes := p.bytes()
		b.end()
		if c.right {
			whole(t, c.name, p)
			continue
		}
		wrong(t, c.name, p.row.String(), api.ErrForm)
		wrong(t, c.name+", others behind", p.row.String()+strings.Repeat("01", 50), api.ErrForm)
		// The codes are asked when all lengths are read.
		refused(t, c.name+", cut", codes[:len(codes)-1], 9, api.ErrEnd)
	}
}

func TestLoneDistances(t *testing.T) {
	letters := lengthsOf(258, map[int]int{0: 1, 256: 2, 257: 2})
	lone := func(distances map[int]int) body {
		p := &packer{}
		b := p.told(true, letters, lengthsOf(7, distances))
		b.put("\x00\x00\x00\x00\x00\x00\x00\x00\x00\x00")
		return b
	}
	b := lone(map[int]int{0: 1})
	b.repeat(3, 1)
	b.end()
	whole(t, "a lone distance", b.packer)

	b = lone(map[int]int{6: 1})
	b.repeat(3, 10)
	b.end()
	whole(t, "a lone distance with further bits", b.packer)

	b = lone(nil)
	b.end()
	whole(t, "no distance, and none is needed", b.packer)

	for _, further := range []string{"", "1", strings.Repeat("1", 40)} {
		b = lone(map[int]int{0: 1})
		b.letterOf(3)
		wrong(t, "the other bit", b.row.String()+"1"+further, api.ErrForm)
	}
	for _, further := range []string{"", "0", "1", strings.Repeat("0", 40), strings.Repeat("1", 40)} {
		b = lone(nil)
		b.letterOf(3)
		wrong(t, "no distance, and one is needed", b.row.String()+further, api.ErrForm)
	}
}

// TestNoDistanceLeft has a letter of a length as the very last bit, with no bit left for its distance.
func TestNoDistanceLeft(t *testing.T) {
	letters := lengthsOf(258, map[int]int{0: 1, 256: 2, 257: 2})
	for _, c := range []struct {
		distances map[int]int
		want      api.Errno
	}{{nil, api.ErrForm}, {map[int]int{0: 1}, api.ErrEnd}, {map[int]int{0: 1, 1: 1}, api.ErrEnd}} {
		p := &packer{}
		b := p.told(true, letters, lengthsOf(7, c.distances))
		for p.row.Len()%8 != 6 {
			b.put("\x00")
		}
		p.row.WriteString(b.letters[257])
		refused(t, "a length at the end", p.bytes(), 1000, c.want)
	}
}

func TestNoLetters(t *testing.T) {
	letters, _ := fixedLengths()
	rows := rowsOf(letters)
	for _, letter := range []int{286, 287} {
		row := "110" + strings.Repeat(rows[255], 5) + rows[letter]
		if len(row)%8 != 0 {
			t.Fatal(len(row))
		}
		// It is told ahead of the distance's bits, which lack.
		refused(t, "no letter at the end", bytesOf(row), 5, api.ErrForm)
		wrong(t, "no letter", row+strings.Repeat("0", 100), api.ErrForm)
		refused(t, "too long ahead", bytesOf(row), 4, api.ErrLong)
	}
}

func TestNoDistances(t *testing.T) {
	for _, distance := range []string{"01111", "11111"} { // 30 and 31, the highest bit first
		p := &packer{}
		b := p.fixed(true)
		b.put("abc")
		b.letterOf(3)
		turned := []byte(distance)
		slices.Reverse(turned)
		p.row.Write(turned)
		refused(t, "no distance", p.bytes(), 3, api.ErrForm)
		wrong(t, "no distance", p.row.String(), api.ErrForm)
		wrong(t, "no distance, others behind", p.row.String()+strings.Repeat("0", 100), api.ErrForm)
	}
}

// TestFirstFault has two faults each, of which the one that is read first is told.
func TestFirstFault(t *testing.T) {
	letters, _ := fixedLengths()
	rows := rowsOf(letters)
	// 16 of three bits is the very last of 32 bits: its further bits lack.
	row := "101" + num(0, 5) + num(0, 5) + num(0, 4) + num(3, 3) + num(3, 3) + num(2, 3) + num(1, 3) + "110"
	refused(t, "16 without a length ahead, its bits lack", bytesOf(row), 9, api.ErrForm)
	// 17 with all further bits lacking.
	row = strings.TrimSuffix(row, "110") + "111"
	refused(t, "17, its bits lack", bytesOf(row), 9, api.ErrEnd)

	// A run that is too long, however many times it is: its bits lack.
	row = toldRow(257, 1, helpersOf(1), zeros(245), strings.Repeat(helpersOf(0), 11), helper(18, ""))
	if len(row)%8 != 0 {
		t.Fatal(len(row))
	}
	refused(t, "too many lengths, bits lack", bytesOf(row), 9, api.ErrEnd)

	// The limit, ahead of what follows.
	refused(t, "too long, and then kind 3", bytesOf("010"+rows['a']+rows[256]+"111"), 0, api.ErrLong)
	refused(t, "kind 3, once there is room", bytesOf("010"+rows['a']+rows[256]+"111"), 1, api.ErrForm)
	refused(t, "too long, and then cut", bytesOf("110" + rows['a'] + "00000")[:2], 0, api.ErrLong)
	refused(t, "cut, once there is room", bytesOf("110" + rows['a'] + "00000")[:2], 1, api.ErrEnd)

	// A length that is too long: its distance is read and asked first.
	ahead := "110" + rows['a']
	refused(t, "the length's bits lack", bytesOf(ahead + rows[284])[:2], 1, api.ErrEnd)
	refused(t, "the distance's sign lacks", bytesOf(ahead + rows[257])[:2], 1, api.ErrEnd)
	refused(t, "the distance's bits lack", bytesOf(ahead + rows[257] + "11101")[:2], 1, api.ErrEnd)
	refused(t, "too far, and too long", bytesOf(ahead+rows[257]+"00001"), 1, api.ErrForm)
	refused(t, "too long", bytesOf(ahead+rows[257]+"00000"), 1, api.ErrLong)
	refused(t, "too long by one", bytesOf(ahead+rows[257]+"00000"), 3, api.ErrLong)
	refused(t, "long enough, the end lacks", bytesOf(ahead+rows[257]+"00000"+"1"), 4, api.ErrEnd)
}

// TestDistanceBits cuts within a distance's further bits.
func TestDistanceBits(t *testing.T) {
	p := &packer{}
	b := p.fixed(true)
	b.put("abcd")
	b.letterOf(258)
	b.distanceOf(32768)
	bytes := p.bytes()
	for n := range bytes {
		refused(t, "cut", bytes[:n], 4, api.ErrEnd)
	}
	refused(t, "too far", bytes, 4, api.ErrForm)
}

// TestModel holds what is answered against the model: of all short bytes, of drawn ones, and of right ones that were changed.
func TestModel(t *testing.T) {
	held := func(b []byte, limit int) {
		t.Helper()
		r, err := inflate.Inflate(b, limit)
		want, wantErr := modelled(b, limit)
		if err != wantErr || !same(r, want) {
			t.Fatalf("%v, limit %d: %v, %v: want %v, %v", b, limit, r, err, want, wantErr)
		}
		bounded(t, b, limit, r)
	}
	for x := range 1 << 16 {
		b := []byte{byte(x), byte(x >> 8)}
		held(b, x%3)
		if b[1] == 0 {
			held(b[:1], x%3)
		}
	}
	draw := rand.New(rand.NewSource(81))
	for range 3000 {
		b := make([]byte, draw.Intn(60))
		draw.Read(b)
		held(b, draw.Intn(100))
	}
	for range 1500 {
		p := drawnBlocks(draw)
		b := p.bytes()
		want := inflate.Result{Text: p.text, Used: len(b), Steps: p.steps}
		answered(t, "drawn blocks", b, len(p.text), want)
		held(b, draw.Intn(len(p.text)+2))
		for range 4 {
			held(changed(draw, b), draw.Intn(2*len(p.text)+2))
		}
	}
}

// changed is bytes with a bit turned, cut or grown.
func changed(draw *rand.Rand, b []byte) []byte {
	b = slices.Clone(b)
	switch draw.Intn(4) {
	case 0:
		return b[:draw.Intn(len(b))]
	case 1:
		return append(b, byte(draw.Intn(256)))
	}
	for range 1 + draw.Intn(2) {
		b[draw.Intn(len(b))] ^= 1 << draw.Intn(8)
	}
	return b
}

// bounded asks that there are no more bytes and steps than there may be.
func bounded(t *testing.T, b []byte, limit int, r inflate.Result) {
	t.Helper()
	if len(r.Text) > limit || r.Steps > 8*len(b)+1 || r.Used > len(b) {
		t.Fatalf("%d bytes, limit %d: %d bytes, used %d, steps %d", len(b), limit, len(r.Text), r.Used, r.Steps)
	}
}

// TestBounds packs as much into few bytes as can be, in bytes that are put out and in steps.
func TestBounds(t *testing.T) {
	// Letters of one bit: nearly eight steps a byte.
	p := &packer{}
	b := p.told(true, lengthsOf(257, map[int]int{'x': 1, 256: 1}), []int{0})
	b.put(strings.Repeat("x", 100000))
	b.end()
	for _, limit := range []int{100000, 100001, 1 << 20} {
		r, err := inflate.Inflate(p.bytes(), limit)
		if err != nil || r.Steps != p.steps || r.Steps < 79*len(p.bytes())/10 {
			t.Error(r.Steps, p.steps, err)
		}
		bounded(t, p.bytes(), limit, r)
	}

	// Lengths of two bits: the most bytes out of few.
	p = &packer{}
	b = p.told(true, lengthsOf(286, map[int]int{'x': 2, 256: 2, 285: 1}), []int{1})
	b.put("x")
	for range 4000 {
		b.repeat(258, 1)
	}
	b.end()
	for _, limit := range []int{0, 1, 2, 258, 259, 1000, len(p.text) - 1} {
		refused(t, "much out of few", p.bytes(), limit, api.ErrLong)
	}
	r, err := inflate.Inflate(p.bytes(), len(p.text))
	if err != nil || !bytes.Equal(r.Text, p.text) || r.Steps != p.steps {
		t.Error(len(r.Text), r.Steps, err)
	}
	bounded(t, p.bytes(), len(p.text), r)

	// Blocks that put out nothing.
	p = &packer{}
	p.row.WriteString(strings.Repeat("0100000000", 100000))
	p.plain(true, "")
	answered(t, "empty blocks", p.bytes(), 0, inflate.Result{Used: len(p.bytes()), Steps: 200001})
}

// TestLibrary reads what Go's library packs, and holds what was changed against what the library reads.
func TestLibrary(t *testing.T) {
	draw := rand.New(rand.NewSource(82))
	for range 60 {
		text := drawnText(draw)
		for _, level := range []int{flate.HuffmanOnly, flate.NoCompression, 1, 5, 9} {
			b := packedByLibrary(t, text, level)
			r, err := inflate.Inflate(append(slices.Clone(b), 1, 2), len(text))
			if err != nil || !bytes.Equal(r.Text, text) || r.Used != len(b) {
				t.Fatal(len(text), level, r.Used, err)
			}
			bounded(t, b, len(text), r)
			if want, wantErr := modelled(b, len(text)); wantErr != nil || !same(r, want) {
				t.Fatal(len(text), level, r.Steps, want.Steps, wantErr)
			}
			likeLibrary(t, changed(draw, b))
		}
	}
}

// likeLibrary asks that what is read is what the library reads. (The library reads more than there may be, but no other bytes.)
func likeLibrary(t *testing.T, b []byte) {
	t.Helper()
	r, err := inflate.Inflate(b, api.MaxBytes)
	bounded(t, b, api.MaxBytes, r)
	if err != nil {
		return
	}
	text, err := io.ReadAll(flate.NewReader(bytes.NewReader(b)))
	if err != nil || !bytes.Equal(text, r.Text) {
		t.Fatal(b, err)
	}
}

func packedByLibrary(t *testing.T, text []byte, level int) []byte {
	t.Helper()
	var b bytes.Buffer
	w, err := flate.NewWriter(&b, level)
	if err != nil {
		t.Fatal(err)
	}
	if _, err := w.Write(text); err != nil {
		t.Fatal(err)
	}
	if err := w.Close(); err != nil {
		t.Fatal(err)
	}
	return b.Bytes()
}

// drawnText is bytes of few or many kinds, with pieces that come again.
func drawnText(draw *rand.Rand) []byte {
	text := make([]byte, draw.Intn(300))
	kinds := 1 + draw.Intn(256)
	for i := range text {
		text[i] = byte(draw.Intn(kinds))
	}
	for range draw.Intn(200) {
		from := draw.Intn(len(text) + 1)
		to := from + draw.Intn(len(text)-from+1)
		text = append(text, text[from:min(to, from+500)]...)
		text = append(text, byte(draw.Intn(kinds)))
	}
	return text
}

// TestNeitherChangedNorKept looks at what was handed in, its spare room included, and at two answers.
func TestNeitherChangedNorKept(t *testing.T) {
	draw := rand.New(rand.NewSource(83))
	for range 200 {
		p := drawnBlocks(draw)
		room := append(p.bytes(), bytes.Repeat([]byte{0xa5}, 64)...)
		before := slices.Clone(room)
		b := room[:len(room)-64]
		first, err := inflate.Inflate(b, len(p.text))
		if err != nil || !bytes.Equal(room, before) {
			t.Fatal(err, "changed")
		}
		second, _ := inflate.Inflate(b, len(p.text))
		scrawl(first.Text)
		if !bytes.Equal(room, before) || !bytes.Equal(second.Text, p.text) {
			t.Fatal("shared")
		}
		scrawl(room)
		if !bytes.Equal(second.Text, p.text) {
			t.Fatal("kept")
		}
	}
}

// scrawl writes over bytes and their spare room.
func scrawl(b []byte) {
	b = b[:cap(b)]
	for i := range b {
		b[i] ^= 0xff
	}
}
