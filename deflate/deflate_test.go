package deflate_test

import (
	"bytes"
	"compress/flate"
	"io"
	"math"
	"math/rand"
	"strings"
	"testing"

	"crossdock/api"
	"crossdock/deflate"
	"crossdock/inflate"
)

// packed asks for a text by a mode, which there must be.
func packed(t *testing.T, text []byte, mode int) []byte {
	t.Helper()
	b, err := deflate.Deflate(text, mode)
	if err != nil {
		t.Fatalf("%q, %d bytes, mode %d: %v", short(string(text)), len(text), mode, err)
	}
	return b
}

// packedIs asks for what a text is packed as by a mode.
func packedIs(t *testing.T, text []byte, mode int, want []byte) {
	t.Helper()
	if b := packed(t, text, mode); !bytes.Equal(b, want) {
		t.Errorf("%q, %d bytes, mode %d: %d bytes %v: want %d bytes %v", short(string(text)), len(text), mode, len(b), b[:min(20, len(b))], len(want), want[:min(20, len(want))])
	}
}

// comesBack asks that what is packed, by each mode, is unpacked to the text, and that it isn't too long.
func comesBack(t *testing.T, text []byte) {
	t.Helper()
	for mode := range 3 {
		b := packed(t, text, mode)
		r, err := inflate.Inflate(b, len(text))
		if err != nil || !bytes.Equal(r.Text, text) || r.Used != len(b) {
			t.Errorf("%q, %d bytes, mode %d: %d bytes, used %d of %d, %v", short(string(text)), len(text), mode, len(r.Text), r.Used, len(b), err)
		}
		if mode == 2 && len(b) > deflate.Bound(len(text)) {
			t.Errorf("%q, %d bytes: %d bytes", short(string(text)), len(text), len(b))
		}
	}
}

func TestModeRange(t *testing.T) {
	long := make([]byte, 1<<20+1)
	for _, mode := range []int{-1, -2, 3, 4, 256, 1 << 32, 1<<32 + 1, math.MinInt, math.MaxInt} {
		for _, text := range [][]byte{nil, {}, []byte("abc"), long[1:], long} {
			if b, err := deflate.Deflate(text, mode); err != api.ErrRange || len(b) != 0 {
				t.Errorf("mode %d of %d bytes: %d bytes, %v", mode, len(text), len(b), err)
			}
		}
	}
}

func TestMostText(t *testing.T) {
	long := noise(1<<20 + 1)
	for mode := range 3 {
		for _, text := range [][]byte{long, make([]byte, 1<<20+1), make([]byte, 1<<20+65535)} {
			if b, err := deflate.Deflate(text, mode); err != api.ErrLong || len(b) != 0 {
				t.Errorf("mode %d of %d bytes: %d bytes, %v", mode, len(text), len(b), err)
			}
		}
	}
	for _, text := range [][]byte{long[1:], long[2:], make([]byte, 1<<20)} {
		comesBack(t, text)
	}
	packedIs(t, long[1:], 0, modelPlain(long[1:]))
	packedIs(t, long[1:], 2, modelPlain(long[1:]))
}

// TestPlainMode has blocks of 65535 bytes, and of what is left.
func TestPlainMode(t *testing.T) {
	packedIs(t, nil, 0, []byte{1, 0, 0, 255, 255})
	packedIs(t, []byte{}, 0, []byte{1, 0, 0, 255, 255})
	packedIs(t, []byte("A"), 0, []byte{1, 1, 0, 254, 255, 65})
	packedIs(t, []byte("aaaa"), 0, []byte{1, 4, 0, 251, 255, 'a', 'a', 'a', 'a'})

	text := noise(3 * 65535)
	most := packed(t, text[:65535], 0)
	if len(most) != 65540 || !bytes.Equal(most[:5], []byte{1, 255, 255, 0, 0}) || !bytes.Equal(most[5:], text[:65535]) {
		t.Error(len(most), most[:5])
	}
	more := packed(t, text[:65536], 0)
	if len(more) != 65546 || !bytes.Equal(more[:5], []byte{0, 255, 255, 0, 0}) || !bytes.Equal(more[65540:], []byte{1, 1, 0, 254, 255, text[65535]}) {
		t.Error(len(more), more[:5], more[65540:])
	}
	for _, size := range []int{2, 255, 256, 257, 65534, 65535, 65536, 131069, 131070, 131071, 3 * 65535} {
		packedIs(t, text[:size], 0, modelPlain(text[:size]))
		comesBack(t, text[:size])
	}
}

// TestTokenMode has one block of kind 1, of which the bits are written out here.
func TestTokenMode(t *testing.T) {
	packedIs(t, nil, 1, []byte{3, 0})
	packedIs(t, []byte{}, 1, []byte{3, 0})
	packedIs(t, []byte("a"), 1, bytesOf("1"+"10"+"10010001"+"0000000"))
	packedIs(t, []byte("\xff"), 1, bytesOf("1"+"10"+"111111111"+"0000000"))
	packedIs(t, []byte("aaaa"), 1, bytesOf("1"+"10"+"10010001"+"0000001"+"00000"+"0000000"))
	packedIs(t, []byte("abcdeabcde"), 1, bytesOf("1"+"10"+"10010001"+"10010010"+"10010011"+"10010100"+"10010101"+"0000011"+"00100"+"0"+"0000000"))
	packedIs(t, []byte(strings.Repeat("a", 13)), 1, bytesOf("1"+"10"+"10010001"+"0001001"+"1"+"00000"+"0000000"))
	// 257 is the last but one letter and a number of 30, 258 the last letter alone.
	packedIs(t, []byte(strings.Repeat("a", 258)), 1, bytesOf("1"+"10"+"10010001"+"11000100"+"01111"+"00000"+"0000000"))
	packedIs(t, []byte(strings.Repeat("a", 259)), 1, bytesOf("1"+"10"+"10010001"+"11000101"+"00000"+"0000000"))
}

func TestBytesAsLetters(t *testing.T) {
	var all []byte
	for x := range 256 {
		all = append(all, byte(x))
		one := []byte{byte(x)}
		packedIs(t, one, 1, modelBlock(letters(string(one))))
		comesBack(t, one)
	}
	packedIs(t, all, 1, modelBlock(letters(string(all))))
	comesBack(t, all)
}

func TestLengthsAsLetters(t *testing.T) {
	for n := 3; n <= 258; n++ {
		text := []byte(strings.Repeat("\xfe", n+1))
		packedIs(t, text, 1, modelBlock(row("\xfe", match(n, 1))))
		comesBack(t, text)
	}
}

// TestDistancesAsSigns has each sign's least and greatest distance, and each distance up to some hundred.
func TestDistancesAsSigns(t *testing.T) {
	var distances []int
	for distance := range 400 {
		distances = append(distances, distance+1)
	}
	for _, s := range distanceSpans()[16:] {
		greatest := s.least + 1<<s.bits - 1
		distances = append(distances, s.least, s.least+1, s.least+1<<s.bits/2, greatest-1, greatest)
	}
	if distances[len(distances)-1] != 32768 {
		t.Fatal(distances[len(distances)-1])
	}
	for _, distance := range distances {
		text := againAfter(distance)
		list := modelTokens(text)
		if last := list[len(list)-1]; last != match(3, distance) {
			t.Fatal(distance, last)
		}
		packedIs(t, text, 1, modelBlock(list))
	}
}

// againAfter is a text whose last three bytes are those of its beginning, so far back.
func againAfter(distance int) []byte {
	text := []byte("abc")[:min(3, distance)]
	if distance > 3 {
		text = []byte("abc" + strings.Repeat("-", distance-4) + "!")
	}
	for range 3 {
		text = append(text, text[len(text)-distance])
	}
	return text
}

// TestShorterMode asks for the one that has fewer bytes, and for the block of tokens, if both have as many.
func TestShorterMode(t *testing.T) {
	var nines []byte // of nine bits each, none of which comes twice
	for x := range 60 {
		nines = append(nines, byte(160+x))
	}
	seen := [3]int{}
	for size := range nines {
		text := nines[:size]
		plain, tokens := modelPlain(text), modelBlock(modelTokens(text))
		want := tokens
		switch {
		case len(plain) < len(tokens):
			want = plain
			seen[0]++
		case len(plain) > len(tokens):
			seen[1]++
		default:
			seen[2]++
		}
		packedIs(t, text, 2, want)
	}
	if seen != [3]int{29, 23, 8} {
		t.Error(seen)
	}
	packedIs(t, nil, 2, []byte{3, 0})
	packedIs(t, []byte("a"), 2, bytesOf("1"+"10"+"10010001"+"0000000"))
}

// TestPackedModel holds drawn texts, by each mode, against what the chapter tells.
func TestPackedModel(t *testing.T) {
	draw := rand.New(rand.NewSource(99))
	for i := range 600 {
		size := draw.Intn(200)
		if i%40 == 0 {
			size = draw.Intn(8000)
		}
		text := drawnText(draw, size, 1+draw.Intn(1+i%256))
		plain, tokens := modelPlain(text), modelBlock(modelTokens(text))
		packedIs(t, text, 0, plain)
		packedIs(t, text, 1, tokens)
		if len(plain) < len(tokens) {
			packedIs(t, text, 2, plain)
		} else {
			packedIs(t, text, 2, tokens)
		}
	}
}

// TestComesBack unpacks what is packed: texts of all sizes, and great ones.
func TestComesBack(t *testing.T) {
	comesBack(t, nil)
	draw := rand.New(rand.NewSource(999))
	for size := range 600 {
		comesBack(t, noise(size))
		comesBack(t, drawnText(draw, size, 1+draw.Intn(8)))
	}
	for _, unlike := range []int{1, 2, 5, 50, 256} {
		comesBack(t, drawnText(draw, 200000, unlike))
	}
	piece := noise(32768)
	comesBack(t, bytes.Repeat(piece, 5))
	comesBack(t, bytes.Repeat(append(piece, '!'), 5))
	comesBack(t, bytes.Repeat(piece[1:], 5))
}

// TestLibrary has what is packed unpacked by Go's own library.
func TestLibrary(t *testing.T) {
	draw := rand.New(rand.NewSource(9999))
	for size := range 300 {
		text := drawnText(draw, size*size, 1+size%256)
		for mode := range 3 {
			r := bytes.NewReader(packed(t, text, mode))
			b, err := io.ReadAll(flate.NewReader(r))
			if err != nil || !bytes.Equal(b, text) || r.Len() != 0 {
				t.Errorf("%d bytes, mode %d: %d bytes, %d left, %v", len(text), mode, len(b), r.Len(), err)
			}
		}
	}
}

func TestBound(t *testing.T) {
	for n, want := range map[int]int{
		0: 16, 1: 17, 9: 25, 10: 27, 11: 28, 19: 36, 20: 38, 100: 126, 65535: 72104, 1 << 20: 1153449,
		-1: 16, -5: 16, -10: 16, -11: 16, -16: 16, -100: 16, -1 << 32: 16, math.MinInt: 16,
		1 << 31: 2362232028, 1000000000000: 1100000000016,
		// Numbers wrap around.
		math.MaxInt: -8301034833169298213,
	} {
		if got := deflate.Bound(n); got != want {
			t.Errorf("Bound(%d): %d: want %d", n, got, want)
		}
	}
}

// TestDeflateNeitherChangedNorKept scrawls over what was handed in, and over what was answered.
func TestDeflateNeitherChangedNorKept(t *testing.T) {
	for mode := range 3 {
		room := []byte("abcabcabc, and room behind")
		b := packed(t, room[:9], mode)
		if string(room) != "abcabcabc, and room behind" {
			t.Errorf("mode %d changed: %q", mode, room)
		}
		for i := range room {
			room[i] = '!'
		}
		want := [][]byte{modelPlain([]byte("abcabcabc")), modelBlock(row("abc", match(6, 3))), modelBlock(row("abc", match(6, 3)))}[mode]
		if !bytes.Equal(b, want) {
			t.Errorf("mode %d kept: %v: want %v", mode, b, want)
		}
		for i := range b {
			b[i] = 255
		}
		packedIs(t, []byte("abcabcabc"), mode, want)
	}
}
