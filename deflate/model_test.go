package deflate_test

import (
	"math/rand"
	"strings"

	"crossdock/deflate"
)

// modelTokens is a text's tokens, looked for place by place from the nearest one on, as the chapter tells it.
func modelTokens(text []byte) []deflate.Token {
	var list []deflate.Token
	for at := 0; at < len(text); {
		length, distance := modelMatch(text, at)
		if length < 3 {
			list = append(list, deflate.Token{Byte: text[at]})
			at++
			continue
		}
		list = append(list, deflate.Token{Length: length, Distance: distance})
		at += length
	}
	return list
}

func modelMatch(text []byte, at int) (length, distance int) {
	places := 0
	for back := 1; back <= 32768 && back <= at && places < 64 && at+3 <= len(text); back++ {
		if string(text[at-back:at-back+3]) != string(text[at:at+3]) {
			continue
		}
		places++
		n := 3
		for n < 258 && at+n < len(text) && text[at-back+n] == text[at+n] {
			n++
		}
		if n > length {
			length, distance = n, back
		}
	}
	return length, distance
}

// modelPlain is a text in mode 0.
func modelPlain(text []byte) []byte {
	var packed []byte
	for len(text) > 65535 {
		packed = append(packed, 0, 255, 255, 0, 0)
		packed = append(packed, text[:65535]...)
		text = text[65535:]
	}
	n := len(text)
	packed = append(packed, 1, byte(n%256), byte(n/256), byte(255-n%256), byte(255-n/256))
	return append(packed, text...)
}

// A row is bits as figures 0 and 1, in the order in which they are written.

// modelBlock is tokens in a block of kind 1, written as a row.
func modelBlock(list []deflate.Token) []byte {
	var row strings.Builder
	row.WriteString("1" + "10")
	for _, token := range list {
		if token.Length == 0 {
			row.WriteString(letterRow(int(token.Byte)))
			continue
		}
		i, s := spanOf(lengthSpans(), token.Length)
		row.WriteString(letterRow(257+i) + lowFirst(token.Length-s.least, s.bits))
		i, s = spanOf(distanceSpans(), token.Distance)
		row.WriteString(highFirst(i, 5) + lowFirst(token.Distance-s.least, s.bits))
	}
	row.WriteString(letterRow(256))
	return bytesOf(row.String())
}

// letterRow is a letter's fixed code: 7 bits from 0 on of 256 to 279, 8 bits behind these of 0 to 143 and of 280 to 287, 9 bits of the others.
func letterRow(letter int) string {
	switch {
	case letter < 144:
		return highFirst(0b00110000+letter, 8)
	case letter < 256:
		return highFirst(0b110010000+letter-144, 9)
	case letter < 280:
		return highFirst(letter-256, 7)
	}
	return highFirst(0b11000000+letter-280, 8)
}

// lowFirst is a number of n bits, the lowest one first.
func lowFirst(x, n int) string {
	row := ""
	for i := range n {
		row += string(rune('0' + x>>i&1))
	}
	return row
}

// highFirst is a number of n bits, the highest one first.
func highFirst(x, n int) string {
	row := ""
	for i := range n {
		row = string(rune('0'+x>>i&1)) + row
	}
	return row
}

// bytesOf is the bytes of a row, the last one filled by bits 0.
func bytesOf(row string) []byte {
	b := make([]byte, (len(row)+7)/8)
	for i := range row {
		b[i/8] |= (row[i] - '0') << (i % 8)
	}
	return b
}

// span is what a sign tells: a least number, to which so many further bits are added.
type span struct{ least, bits int }

// lengthSpans is what the letters from 257 on tell.
func lengthSpans() []span {
	return []span{
		{3, 0}, {4, 0}, {5, 0}, {6, 0}, {7, 0}, {8, 0}, {9, 0}, {10, 0},
		{11, 1}, {13, 1}, {15, 1}, {17, 1}, {19, 2}, {23, 2}, {27, 2}, {31, 2},
		{35, 3}, {43, 3}, {51, 3}, {59, 3}, {67, 4}, {83, 4}, {99, 4}, {115, 4},
		{131, 5}, {163, 5}, {195, 5}, {227, 5}, {258, 0},
	}
}

// distanceSpans is what the distances' signs tell.
func distanceSpans() []span {
	return []span{
		{1, 0}, {2, 0}, {3, 0}, {4, 0}, {5, 1}, {7, 1}, {9, 2}, {13, 2}, {17, 3}, {25, 3},
		{33, 4}, {49, 4}, {65, 5}, {97, 5}, {129, 6}, {193, 6}, {257, 7}, {385, 7}, {513, 8}, {769, 8},
		{1025, 9}, {1537, 9}, {2049, 10}, {3073, 10}, {4097, 11}, {6145, 11}, {8193, 12}, {12289, 12}, {16385, 13}, {24577, 13},
	}
}

// spanOf is the last span that can tell a number: 258 is told without further bits.
func spanOf(spans []span, x int) (int, span) {
	i := len(spans) - 1
	for spans[i].least > x {
		i--
	}
	return i, spans[i]
}

// drawnText is so many bytes of so many unlike ones, some pieces of which come again.
func drawnText(draw *rand.Rand, size, unlike int) []byte {
	text := make([]byte, 0, size)
	for len(text) < size {
		if n := draw.Intn(400); len(text) > n && draw.Intn(30) == 0 {
			first := draw.Intn(len(text) - n)
			text = append(text, text[first:first+n]...)
			continue
		}
		text = append(text, byte(draw.Intn(unlike)*37))
	}
	return text[:size]
}

// noise is so many bytes that have nothing to do with each other.
func noise(size int) []byte {
	text := make([]byte, size)
	rand.New(rand.NewSource(int64(size))).Read(text)
	return text
}
