package inflate_test

import (
	"strings"

	"crossdock/api"
	"crossdock/huff"
	"crossdock/inflate"
)

// A row is bits as figures 0 and 1, in the order in which they are read.

// num is a number of n bits, the lowest one first.
func num(x, n int) string {
	var row strings.Builder
	for range n {
		row.WriteByte('0' + byte(x&1))
		x >>= 1
	}
	return row.String()
}

// bytesOf is the bytes of a row, the last one filled by bits 0.
func bytesOf(row string) []byte {
	b := make([]byte, (len(row)+7)/8)
	for i := range row {
		b[i/8] |= (row[i] - '0') << (i % 8)
	}
	return b
}

// rowOf is the row of bytes.
func rowOf(b []byte) string {
	var row strings.Builder
	for _, x := range b {
		row.WriteString(num(int(x), 8))
	}
	return row.String()
}

// rowsOf is each sign's code as a row (empty, if it has none), as layer 7's chapter tells them.
func rowsOf(lengths []int) []string {
	rows := make([]string, len(lengths))
	next := 0
	for length := 1; length <= 15; length++ {
		for sign := range lengths {
			if lengths[sign] == length {
				row := make([]byte, length)
				for i := range row {
					row[i] = '0' + byte(next>>(length-1-i)&1)
				}
				rows[sign] = string(row)
				next++
			}
		}
		next *= 2
	}
	return rows
}

// helperSigns is the order in which the helpers' lengths stand.
var helperSigns = []int{16, 17, 18, 0, 8, 7, 9, 6, 10, 5, 11, 4, 12, 3, 13, 2, 14, 1, 15}

// span is what a sign tells: a least number, to which so many further bits are added.
type span struct{ least, bits int }

// lengthSpans is what the letters from 257 on tell.
func lengthSpans() []span {
	spans := []span{{3, 0}, {4, 0}, {5, 0}, {6, 0}, {7, 0}, {8, 0}, {9, 0}, {10, 0}}
	for i, four := range [][4]int{{11, 13, 15, 17}, {19, 23, 27, 31}, {35, 43, 51, 59}, {67, 83, 99, 115}, {131, 163, 195, 227}} {
		for _, least := range four {
			spans = append(spans, span{least, i + 1})
		}
	}
	return append(spans, span{258, 0})
}

// distanceSpans is what the distances' signs tell.
func distanceSpans() []span {
	spans := []span{{1, 0}, {2, 0}, {3, 0}, {4, 0}}
	first := 5
	for n := 1; n <= 13; n++ {
		second := first + 1<<n
		spans = append(spans, span{first, n}, span{second, n})
		first = second + 1<<n
	}
	return spans
}

// fixedLengths is the lengths of a block of kind 1: of 288 letters and of 32 distances.
func fixedLengths() (letters, distances []int) {
	for letter := range 288 {
		switch {
		case letter >= 144 && letter <= 255:
			letters = append(letters, 9)
		case letter >= 256 && letter <= 279:
			letters = append(letters, 7)
		default:
			letters = append(letters, 8)
		}
	}
	for range 32 {
		distances = append(distances, 5)
	}
	return letters, distances
}

// model reads packed bytes figure by figure, as the chapter tells it. It panics with the error that is found first.
type model struct {
	row   string
	at    int
	text  []byte
	limit int
	steps int
}

// modelled is what Inflate owes.
func modelled(b []byte, limit int) (result inflate.Result, err error) {
	if limit < 0 || limit > 1048576 {
		return inflate.Result{}, api.ErrRange
	}
	defer func() {
		switch x := recover().(type) {
		case nil:
		case api.Errno:
			result, err = inflate.Result{}, x
		default:
			panic(x)
		}
	}()
	m := &model{row: rowOf(b), limit: limit}
	for !m.lastBlock() {
	}
	used := m.at / 8
	if m.at%8 > 0 {
		used++
	}
	return inflate.Result{Text: m.text, Used: used, Steps: m.steps}, nil
}

func (m *model) need(ok bool, err api.Errno) {
	if !ok {
		panic(err)
	}
}

func (m *model) num(n int) int {
	m.need(m.at+n <= len(m.row), api.ErrEnd)
	x := 0
	for i := range n {
		x += int(m.row[m.at+i]-'0') << i
	}
	m.at += n
	return x
}

func (m *model) lastBlock() bool {
	m.steps++
	last, kind := m.num(1), m.num(2)
	switch kind {
	case 0:
		m.plain()
	case 1:
		letters, distances := fixedLengths()
		m.body(letters, distances)
	case 2:
		letters, distances := m.codes()
		m.body(letters, distances)
	case 3:
		panic(api.ErrForm)
	}
	return last == 1
}

func (m *model) plain() {
	for m.at%8 != 0 {
		m.at++
	}
	count := m.num(16)
	m.need(m.num(16) == 65535-count, api.ErrForm)
	m.need(len(m.text)+count <= m.limit, api.ErrLong)
	for range count {
		m.text = append(m.text, byte(m.num(8)))
		m.steps++
	}
}

func (m *model) codes() (letters, distances []int) {
	countLetters, countDistances, countHelpers := m.num(5)+257, m.num(5)+1, m.num(4)+4
	m.need(countLetters <= 286 && countDistances <= 30, api.ErrForm)
	helpers := make([]int, 19)
	for i := range countHelpers {
		helpers[helperSigns[i]] = m.num(3)
		m.steps++
	}
	m.code(helpers, false)
	rows := rowsOf(helpers)
	var lengths []int
	for len(lengths) < countLetters+countDistances {
		m.steps++
		sign := m.sign(rows)
		times := 1
		switch sign {
		case 16:
			m.need(len(lengths) > 0, api.ErrForm)
			sign = lengths[len(lengths)-1]
			times = 3 + m.num(2)
		case 17:
			sign = 0
			times = 3 + m.num(3)
		case 18:
			sign = 0
			times = 11 + m.num(7)
		}
		for ; times > 0; times-- {
			lengths = append(lengths, sign)
		}
	}
	m.need(len(lengths) == countLetters+countDistances, api.ErrForm)
	letters, distances = lengths[:countLetters], lengths[countLetters:]
	m.code(letters, false)
	m.code(distances, true)
	m.need(letters[256] > 0, api.ErrForm)
	return letters, distances
}

func (m *model) code(lengths []int, lone bool) {
	_, err := huff.New(lengths, lone)
	m.need(err == nil, api.ErrForm)
}

// sign is the sign whose row is next.
func (m *model) sign(rows []string) int {
	rest := m.row[m.at:min(len(m.row), m.at+15)]
	err := api.ErrForm
	for sign, row := range rows {
		if row != "" && strings.HasPrefix(rest, row) {
			m.at += len(row)
			return sign
		}
		if row != "" && strings.HasPrefix(row, rest) {
			err = api.ErrEnd
		}
	}
	panic(err)
}

func (m *model) body(letters, distances []int) {
	letterRows, distanceRows := rowsOf(letters), rowsOf(distances)
	for {
		m.steps++
		letter := m.sign(letterRows)
		if letter == 256 {
			return
		}
		if letter < 256 {
			m.need(len(m.text) < m.limit, api.ErrLong)
			m.text = append(m.text, byte(letter))
			continue
		}
		length := m.told(lengthSpans(), letter-257)
		distance := m.told(distanceSpans(), m.sign(distanceRows))
		m.need(distance <= len(m.text), api.ErrForm)
		m.need(len(m.text)+length <= m.limit, api.ErrLong)
		for range length {
			m.text = append(m.text, m.text[len(m.text)-distance])
		}
	}
}

// told is the number that a sign tells; one that tells none is refused.
func (m *model) told(spans []span, sign int) int {
	m.need(sign < len(spans), api.ErrForm)
	return spans[sign].least + m.num(spans[sign].bits)
}
