package inflate_test

import (
	"math/rand"
	"slices"
	"strings"
)

// packer puts blocks together, and counts what they come to.
type packer struct {
	row   strings.Builder
	text  []byte
	steps int
}

// begin begins a block.
func (p *packer) begin(last bool, kind int) {
	bit := 0
	if last {
		bit = 1
	}
	p.row.WriteString(num(bit, 1) + num(kind, 2))
	p.steps++
}

// plain puts a block of kind 0; what is passed over is bits 1, which nobody may ask.
func (p *packer) plain(last bool, text string) {
	p.begin(last, 0)
	for p.row.Len()%8 != 0 {
		p.row.WriteByte('1')
	}
	p.row.WriteString(num(len(text), 16) + num(65535-len(text), 16) + rowOf([]byte(text)))
	p.text = append(p.text, text...)
	p.steps += len(text)
}

// body is a block of kind 1 or 2 behind its codes.
type body struct {
	*packer
	letters, distances []string
}

// fixed begins a block of kind 1.
func (p *packer) fixed(last bool) body {
	p.begin(last, 1)
	letters, distances := fixedLengths()
	return body{p, rowsOf(letters), rowsOf(distances)}
}

// told begins a block of kind 2 of these lengths, of which each is told by itself.
func (p *packer) told(last bool, letters, distances []int) body {
	p.begin(last, 2)
	var signs []int
	signs = append(signs, letters...)
	signs = append(signs, distances...)
	p.row.WriteString(headRow(len(letters), len(distances), flatHelpers()))
	p.steps += 19
	rows := rowsOf(flatHelpers())
	for _, sign := range signs {
		p.row.WriteString(rows[sign])
		p.steps++
	}
	return body{p, rowsOf(letters), rowsOf(distances)}
}

// flatHelpers is lengths of all helpers: 5 of 0 to 5 and 4 of the others, which are full.
func flatHelpers() []int {
	lengths := make([]int, 19)
	for helper := range lengths {
		lengths[helper] = 4
		if helper < 6 {
			lengths[helper] = 5
		}
	}
	return lengths
}

// headRow is the three numbers of a block of kind 2 and its helpers' lengths, all of them told.
func headRow(letters, distances int, helpers []int) string {
	row := num(letters-257, 5) + num(distances-1, 5) + num(15, 4)
	for _, helper := range helperSigns {
		row += num(helpers[helper], 3)
	}
	return row
}

// put puts bytes, each as its letter.
func (b body) put(text string) {
	for i := range len(text) {
		b.row.WriteString(b.letters[text[i]])
		b.steps++
	}
	b.text = append(b.text, text...)
}

// end ends the block.
func (b body) end() {
	b.row.WriteString(b.letters[256])
	b.steps++
}

// repeat puts a length and a distance.
func (b body) repeat(length, distance int) {
	b.letterOf(length)
	b.distanceOf(distance)
	b.steps++
	for range length {
		b.text = append(b.text, b.text[len(b.text)-distance])
	}
}

// letterOf writes a length's letter alone, with its further bits. Of two letters that could tell it the last one does.
func (b body) letterOf(length int) {
	i, s := spanOf(lengthSpans(), length)
	b.row.WriteString(b.letters[257+i] + num(length-s.least, s.bits))
}

// distanceOf writes a distance's sign alone, with its further bits.
func (b body) distanceOf(distance int) {
	i, s := spanOf(distanceSpans(), distance)
	b.row.WriteString(b.distances[i] + num(distance-s.least, s.bits))
}

// spanOf is the last span that can tell a number.
func spanOf(spans []span, x int) (int, span) {
	i := len(spans) - 1
	for spans[i].least > x {
		i--
	}
	return i, spans[i]
}

// bytes is what was packed.
func (p *packer) bytes() []byte {
	return bytesOf(p.row.String())
}

// lengthsOf is count lengths, of which those of the signs are as told.
func lengthsOf(count int, of map[int]int) []int {
	lengths := make([]int, count)
	for sign, length := range of {
		lengths[sign] = length
	}
	return lengths
}

// drawnLengths is full lengths of some of count signs, of at least two, with those that must be among them.
func drawnLengths(draw *rand.Rand, count int, must ...int) []int {
	signs := draw.Perm(count)[:2+draw.Intn(count-1)]
	for _, sign := range must {
		if !slices.Contains(signs, sign) {
			signs = append(signs, sign)
		}
	}
	leaves := []int{1, 1}
	for len(leaves) < len(signs) {
		i := draw.Intn(len(leaves))
		if leaves[i] < 15 {
			leaves[i]++
			leaves = append(leaves, leaves[i])
		}
	}
	lengths := make([]int, count)
	for i, sign := range signs {
		lengths[sign] = leaves[i]
	}
	return lengths
}

// drawnBlocks packs some blocks of all kinds.
func drawnBlocks(draw *rand.Rand) *packer {
	p := &packer{}
	for last := false; !last; {
		last = draw.Intn(3) == 0
		switch draw.Intn(3) {
		case 0:
			text := make([]byte, draw.Intn(20))
			draw.Read(text)
			p.plain(last, string(text))
		case 1:
			drawnBody(draw, p.fixed(last))
		case 2:
			letters := drawnLengths(draw, 257+draw.Intn(30), 256)
			distances := drawnDistances(draw)
			drawnBody(draw, p.told(last, letters, distances))
		}
	}
	return p
}

// drawnDistances is lengths of distances, lone ones among them.
func drawnDistances(draw *rand.Rand) []int {
	count := 1 + draw.Intn(30)
	lengths := make([]int, count)
	if count == 1 || draw.Intn(4) == 0 {
		lengths[draw.Intn(count)] = draw.Intn(2)
		return lengths
	}
	return drawnLengths(draw, count)
}

// drawnBody puts bytes and lengths of those that have a code, and ends the block.
func drawnBody(draw *rand.Rand, b body) {
	for range draw.Intn(30) {
		letter := draw.Intn(len(b.letters))
		if b.letters[letter] == "" || letter == 256 || letter > 285 {
			continue
		}
		if letter < 256 {
			b.put(string([]byte{byte(letter)}))
			continue
		}
		drawnRepeat(draw, b, letter)
	}
	b.end()
}

// drawnRepeat puts the length of a letter, if there is a distance that doesn't go too far back.
func drawnRepeat(draw *rand.Rand, b body, letter int) {
	sign := draw.Intn(min(30, len(b.distances)))
	far := distanceSpans()[sign]
	farther := draw.Intn(1 << far.bits)
	if b.distances[sign] == "" || far.least+farther > len(b.text) {
		return
	}
	long := lengthSpans()[letter-257]
	longer := draw.Intn(1 << long.bits)
	b.row.WriteString(b.letters[letter] + num(longer, long.bits))
	b.row.WriteString(b.distances[sign] + num(farther, far.bits))
	b.steps++
	for range long.least + longer {
		b.text = append(b.text, b.text[len(b.text)-far.least-farther])
	}
}
