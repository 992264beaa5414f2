package bits_test

import (
	"bytes"
	"math"
	"math/rand"
	"testing"

	"crossdock/api"
	"crossdock/bits"
)

// text is so many bytes that look unlike each other.
func text(size int) []byte {
	b := make([]byte, size)
	rand.New(rand.NewSource(int64(size))).Read(b)
	return b
}

// rowOf is the bits of bytes, one by one, as the chapter tells them.
func rowOf(b []byte) []int {
	row := []int{}
	for _, x := range b {
		for i := range 8 {
			row = append(row, int(x)>>i&1)
		}
	}
	return row
}

// bytesOf is the bytes of a row of bits, the last one filled by bits 0.
func bytesOf(row []int) []byte {
	b := make([]byte, (len(row)+7)/8)
	for i, bit := range row {
		b[i/8] |= byte(bit << (i % 8))
	}
	return b
}

// numberOf is a row of bits as a number, the first one the lowest.
func numberOf(row []int) uint32 {
	var x uint32
	for i, bit := range row {
		x |= uint32(bit) << i
	}
	return x
}

// lowFirst is the n bits of a number, the lowest one first.
func lowFirst(x uint32, n int) []int {
	row := []int{}
	for i := range n {
		row = append(row, int(x>>i&1))
	}
	return row
}

// highFirst is the n bits of a number, the highest one first.
func highFirst(x uint32, n int) []int {
	row := []int{}
	for i := n - 1; i >= 0; i-- {
		row = append(row, int(x>>i&1))
	}
	return row
}

// wrongWidths are numbers of bits that no number has.
func wrongWidths() []int {
	return []int{-1, -2, -8, -31, -32, -33, -64, 33, 34, 40, 63, 64, 65, 256, 1 << 31, 1 << 32, 1<<32 + 1, math.MaxInt, math.MinInt, math.MinInt + 1}
}

// modelReader is a reader as the chapter tells it, bit by bit.
type modelReader struct {
	row []int
	at  int
}

func (m *modelReader) left() int { return len(m.row) - m.at }

func (m *modelReader) bits(n int) (uint32, error) {
	if n < 0 || n > 32 {
		return 0, api.ErrRange
	}
	if m.left() < n {
		return 0, api.ErrEnd
	}
	m.at += n
	return numberOf(m.row[m.at-n : m.at]), nil
}

func (m *modelReader) peek(n int) (uint32, int) {
	if n < 0 || n > 32 {
		return 0, 0
	}
	if n > m.left() {
		n = m.left()
	}
	return numberOf(m.row[m.at : m.at+n]), n
}

func (m *modelReader) align() int {
	was := m.at
	for m.at%8 != 0 {
		m.at++
	}
	return m.at - was
}

func (m *modelReader) bytes(n int) ([]byte, error) {
	if n < 0 {
		return nil, api.ErrRange
	}
	if m.at%8 != 0 {
		return nil, api.ErrForm
	}
	if m.left()/8 < n {
		return nil, api.ErrEnd
	}
	m.at += 8 * n
	return bytesOf(m.row[m.at-8*n : m.at]), nil
}

// pair is a reader, and the model of it.
type pair struct {
	r *bits.Reader
	m *modelReader
}

// pairAt is a reader of bytes that is at the bit, and its model.
func pairAt(t *testing.T, b []byte, at int) pair {
	t.Helper()
	p := pair{bits.NewReader(b), &modelReader{row: rowOf(b)}}
	for p.m.at < at {
		p.bits(t, min(32, at-p.m.at))
	}
	return p
}

// where asks that the reader is where its model is.
func (p pair) where(t *testing.T, call string, n int) {
	t.Helper()
	if p.r.At() != p.m.at || p.r.Left() != p.m.left() {
		t.Fatalf("behind %s(%d): at %d with %d left: want %d with %d left", call, n, p.r.At(), p.r.Left(), p.m.at, p.m.left())
	}
}

func (p pair) bits(t *testing.T, n int) {
	t.Helper()
	at := p.m.at
	x, err := p.r.Bits(n)
	if want, wantErr := p.m.bits(n); x != want || err != wantErr {
		t.Fatalf("Bits(%d) at %d: %x, %v: want %x, %v", n, at, x, err, want, wantErr)
	}
	p.where(t, "Bits", n)
}

func (p pair) peek(t *testing.T, n int) {
	t.Helper()
	x, count := p.r.Peek(n)
	if want, wantCount := p.m.peek(n); x != want || count != wantCount {
		t.Fatalf("Peek(%d) at %d: %x, %d: want %x, %d", n, p.m.at, x, count, want, wantCount)
	}
	p.where(t, "Peek", n)
}

func (p pair) align(t *testing.T) {
	t.Helper()
	at := p.m.at
	if n, want := p.r.Align(), p.m.align(); n != want {
		t.Fatalf("Align at %d: %d: want %d", at, n, want)
	}
	p.where(t, "Align", 0)
}

func (p pair) bytes(t *testing.T, n int) {
	t.Helper()
	at := p.m.at
	b, err := p.r.Bytes(n)
	if want, wantErr := p.m.bytes(n); !bytes.Equal(b, want) || err != wantErr {
		t.Fatalf("Bytes(%d) at %d: %x, %v: want %x, %v", n, at, b, err, want, wantErr)
	}
	p.where(t, "Bytes", n)
}

// modelWriter is a writer as the chapter tells it, bit by bit.
type modelWriter struct{ row []int }

// refusal is the error of Put and Code.
func refusal(x uint32, n int) error {
	if n < 0 || n > 32 || uint64(x) >= 1<<n {
		return api.ErrRange
	}
	return nil
}

func (m *modelWriter) put(x uint32, n int) error {
	if err := refusal(x, n); err != nil {
		return err
	}
	m.row = append(m.row, lowFirst(x, n)...)
	return nil
}

func (m *modelWriter) code(x uint32, n int) error {
	if err := refusal(x, n); err != nil {
		return err
	}
	m.row = append(m.row, highFirst(x, n)...)
	return nil
}

func (m *modelWriter) align() int {
	n := 0
	for len(m.row)%8 != 0 {
		m.row = append(m.row, 0)
		n++
	}
	return n
}

func (m *modelWriter) bytes(b []byte) error {
	if len(m.row)%8 != 0 {
		return api.ErrForm
	}
	m.row = append(m.row, rowOf(b)...)
	return nil
}

// desk is a writer, and the model of it.
type desk struct {
	w *bits.Writer
	m *modelWriter
}

// deskAt is a writer that has so many bits, and its model.
func deskAt(t *testing.T, at int) desk {
	t.Helper()
	d := desk{bits.NewWriter(), &modelWriter{}}
	for i := range at {
		d.put(t, uint32(i%3&1), 1)
	}
	return d
}

// what asks that the writer has what its model has.
func (d desk) what(t *testing.T, call string, x uint32, n int) {
	t.Helper()
	if got, want := d.w.Len(), len(d.m.row); got != want {
		t.Fatalf("behind %s(%x, %d): %d bits: want %d", call, x, n, got, want)
	}
	if got, want := d.w.Text(), bytesOf(d.m.row); !bytes.Equal(got, want) {
		t.Fatalf("behind %s(%x, %d): %x: want %x", call, x, n, got, want)
	}
}

func (d desk) put(t *testing.T, x uint32, n int) {
	t.Helper()
	if err, want := d.w.Put(x, n), d.m.put(x, n); err != want {
		t.Fatalf("Put(%x, %d): %v: want %v", x, n, err, want)
	}
	d.what(t, "Put", x, n)
}

func (d desk) code(t *testing.T, x uint32, n int) {
	t.Helper()
	if err, want := d.w.Code(x, n), d.m.code(x, n); err != want {
		t.Fatalf("Code(%x, %d): %v: want %v", x, n, err, want)
	}
	d.what(t, "Code", x, n)
}

func (d desk) align(t *testing.T) {
	t.Helper()
	at := len(d.m.row)
	if n, want := d.w.Align(), d.m.align(); n != want {
		t.Fatalf("Align at %d: %d: want %d", at, n, want)
	}
	d.what(t, "Align", 0, 0)
}

func (d desk) bytes(t *testing.T, b []byte) {
	t.Helper()
	if err, want := d.w.Bytes(b), d.m.bytes(b); err != want {
		t.Fatalf("Bytes of %d at %d: %v: want %v", len(b), len(d.m.row), err, want)
	}
	d.what(t, "Bytes", 0, len(b))
}

// P6.1: the chapter's example, and texts that are worked out by hand.
func TestKnown(t *testing.T) {
	w := bits.NewWriter()
	if w.Put(1, 1) != nil || w.Code(1, 2) != nil || !bytes.Equal(w.Text(), []byte{5}) || w.Len() != 3 {
		t.Errorf("the chapter's example: %x, %d bits", w.Text(), w.Len())
	}
	w = bits.NewWriter()
	for _, err := range []error{w.Put(0x12345678, 32), w.Code(0x12345678, 32), w.Put(6, 3), w.Code(6, 3)} {
		if err != nil {
			t.Error(err)
		}
	}
	if got, want := w.Text(), []byte{0x78, 0x56, 0x34, 0x12, 0x48, 0x2c, 0x6a, 0x1e, 0x1e}; !bytes.Equal(got, want) {
		t.Errorf("%x: want %x", got, want)
	}
	r := bits.NewReader([]byte{0xb5, 0x0f, 0x01})
	for i, want := range []uint32{1, 2, 0x16, 0x0f, 1} {
		if got, err := r.Bits([]int{1, 2, 5, 8, 8}[i]); got != want || err != nil {
			t.Errorf("step %d: %x, %v: want %x", i, got, err, want)
		}
	}
}

// P6.1: each number of bits, wrong ones too, at each bit of a text, with what is left and one more among them.
func TestReaderEverywhere(t *testing.T) {
	for _, size := range []int{0, 1, 2, 4, 5, 9} {
		b := text(size)
		for at := range 8*size + 1 {
			for n := -3; n <= 36; n++ {
				pairAt(t, b, at).bits(t, n)
				pairAt(t, b, at).peek(t, n)
			}
			for n := -3; n <= size+3; n++ {
				pairAt(t, b, at).bytes(t, n)
			}
			pairAt(t, b, at).align(t)
		}
	}
}

// P6.1: numbers far outside the bounds, at a whole byte, between two, and at the end; the reader stays where it is.
func TestReaderFarOutside(t *testing.T) {
	for _, at := range []int{0, 1, 7, 8, 63, 64} {
		p := pairAt(t, text(8), at)
		for _, n := range wrongWidths() {
			p.bits(t, n)
			p.peek(t, n)
			p.bytes(t, n)
		}
		// These come to 0, or to a few bits, if eight times as many wrap around.
		for _, n := range []int{1 << 61, 1<<61 + 1, 1 << 62, 1 << 60, 1<<60 + 2} {
			p.bytes(t, n)
		}
		p.bits(t, 0)
		p.peek(t, 0)
	}
}

// P6.1: which error is told where several apply.
func TestReaderErrorsInOrder(t *testing.T) {
	r := bits.NewReader([]byte{1})
	r.Bits(1)
	for n, want := range map[int]error{-1: api.ErrRange, 0: api.ErrForm, 1: api.ErrForm, 2: api.ErrForm} {
		if b, err := r.Bytes(n); len(b) != 0 || err != want {
			t.Errorf("Bytes(%d) between two bytes: %x, %v: want %v", n, b, err, want)
		}
	}
	r.Align()
	for n, want := range map[int]error{-1: api.ErrRange, 33: api.ErrRange, 1: api.ErrEnd, 32: api.ErrEnd} {
		if x, err := r.Bits(n); x != 0 || err != want {
			t.Errorf("Bits(%d) at the end: %x, %v: want %v", n, x, err, want)
		}
	}
	for n, want := range map[int]error{-1: api.ErrRange, 1: api.ErrEnd} {
		if b, err := r.Bytes(n); len(b) != 0 || err != want {
			t.Errorf("Bytes(%d) at the end: %x, %v: want %v", n, b, err, want)
		}
	}
	if r.At() != 8 || r.Left() != 0 {
		t.Errorf("behind errors: at %d with %d left", r.At(), r.Left())
	}
}

// P6.1: a reader of no bytes, be they nil or empty.
func TestReaderOfNothing(t *testing.T) {
	for _, b := range [][]byte{nil, {}, make([]byte, 0, 8)} {
		p := pairAt(t, b, 0)
		p.where(t, "NewReader", 0)
		for n := -2; n <= 34; n++ {
			p.bits(t, n)
			p.peek(t, n)
			p.bytes(t, n)
			p.align(t)
		}
	}
}

// P6.1: 32 bits, all of them 1, from each bit of a byte on: nothing gets lost above, nothing comes from beside.
func TestReaderWide(t *testing.T) {
	for at := range 9 {
		row := append(make([]int, at), lowFirst(math.MaxUint32, 32)...)
		p := pairAt(t, bytesOf(row), at)
		if x, n := p.r.Peek(32); x != math.MaxUint32 || n != 32 {
			t.Errorf("Peek(32) at %d: %x, %d", at, x, n)
		}
		p.bits(t, 32)
		ones := pairAt(t, bytes.Repeat([]byte{0xff}, 6), at)
		for n := range 33 {
			ones.peek(t, n)
		}
	}
}

// P6.1: calls of a reader in any order, wrong ones among them.
func TestReaderInAnyOrder(t *testing.T) {
	for seed := range int64(400) {
		rnd := rand.New(rand.NewSource(seed))
		p := pairAt(t, text(rnd.Intn(60)), 0)
		for range 120 {
			switch rnd.Intn(5) {
			case 0, 1:
				p.bits(t, rnd.Intn(38)-3)
			case 2:
				p.peek(t, rnd.Intn(38)-3)
			case 3:
				p.bytes(t, rnd.Intn(9)-2)
			case 4:
				p.align(t)
			}
		}
	}
}

// edgeNumbers are numbers at the edges of n bits, and beyond them.
func edgeNumbers(n int) []uint32 {
	numbers := []uint32{0, 1, 2, 3, 0x55555555, 0xaaaaaaaa, 0x80000000, 0x80000001, 0x7fffffff, math.MaxUint32, math.MaxUint32 - 1, 0x12345678}
	if n >= 0 && n <= 32 {
		edge := uint32(uint64(1) << n)
		numbers = append(numbers, edge-2, edge-1, edge, edge+1, edge>>1, edge>>1|1, 0x12345678&(edge-1), 0xcafebabe&(edge-1))
	}
	return numbers
}

// P6.1: each number of bits, wrong ones too, behind each number of bits of a byte, with numbers that fit and such that don't.
func TestWriterEverywhere(t *testing.T) {
	for at := range 18 {
		for n := -3; n <= 36; n++ {
			put, code := deskAt(t, at), deskAt(t, at)
			for _, x := range edgeNumbers(n) {
				put.put(t, x, n)
				code.code(t, x, n)
			}
		}
		deskAt(t, at).align(t)
		for _, b := range [][]byte{nil, {}, {0}, {1}, {0xff, 0}, text(9)} {
			deskAt(t, at).bytes(t, b)
		}
	}
}

// P6.1: numbers of bits far outside the bounds; the writer has what it had.
func TestWriterFarOutside(t *testing.T) {
	for _, at := range []int{0, 1, 7, 8, 31, 32, 33} {
		d := deskAt(t, at)
		for _, n := range wrongWidths() {
			for _, x := range []uint32{0, 1, 0x80000000, math.MaxUint32} {
				d.put(t, x, n)
				d.code(t, x, n)
			}
		}
	}
}

// P6.1: all numbers of up to ten bits, in each number of bits that they have room in and in those that they haven't.
func TestWriterSmallNumbers(t *testing.T) {
	for n := range 11 {
		for x := range uint32(1 << 10) {
			w := bits.NewWriter()
			want := refusal(x, n)
			if err := w.Put(x, n); err != want {
				t.Fatalf("Put(%x, %d): %v: want %v", x, n, err, want)
			}
			if err := w.Code(x, n); err != want {
				t.Fatalf("Code(%x, %d): %v: want %v", x, n, err, want)
			}
			row := []int{}
			if want == nil {
				row = append(lowFirst(x, n), highFirst(x, n)...)
			}
			if got := w.Text(); !bytes.Equal(got, bytesOf(row)) || w.Len() != len(row) {
				t.Fatalf("%x in %d bits: %x, %d bits: want %x", x, n, got, w.Len(), bytesOf(row))
			}
		}
	}
}

// P6.1: what a refused call would have written is in no bit that is written later.
func TestWriterBehindErrors(t *testing.T) {
	for at := range 8 {
		d := deskAt(t, at)
		d.put(t, math.MaxUint32, 31)
		d.code(t, math.MaxUint32, 1)
		d.put(t, 0xff, 33)
		d.code(t, 2, 1)
		d.put(t, 1, 0)
		d.put(t, 0, 3)
		d.code(t, 1, -1)
		d.put(t, 0, 32)
		d.bytes(t, []byte{0xff})
		d.align(t)
		d.put(t, 8, 3)
		d.bytes(t, []byte{0xff})
	}
}

// P6.1: a writer without a bit, and calls that write none.
func TestWriterOfNothing(t *testing.T) {
	d := deskAt(t, 0)
	d.what(t, "NewWriter", 0, 0)
	d.align(t)
	d.put(t, 0, 0)
	d.code(t, 0, 0)
	d.bytes(t, nil)
	d.bytes(t, []byte{})
	d.align(t)
	if got := d.w.Text(); len(got) != 0 || d.w.Len() != 0 {
		t.Errorf("a writer without a bit: %x, %d bits", got, d.w.Len())
	}
}

// P6.1: Text tells of the bits so far, as often as one likes, and the last byte is gone on with.
func TestTextBetween(t *testing.T) {
	d := deskAt(t, 0)
	for i := range 100 {
		d.put(t, uint32(i*7)&1, 1)
		d.what(t, "Text", 0, 0)
		d.what(t, "Text", 0, 0)
	}
}

// P6.1: calls of a writer in any order, wrong ones among them.
func TestWriterInAnyOrder(t *testing.T) {
	for seed := range int64(400) {
		rnd := rand.New(rand.NewSource(seed))
		d := deskAt(t, 0)
		for range 60 {
			n := rnd.Intn(38) - 3
			x := rnd.Uint32() >> rnd.Intn(33)
			switch rnd.Intn(6) {
			case 0, 1:
				d.put(t, x, n)
			case 2, 3:
				d.code(t, x, n)
			case 4:
				d.align(t)
			case 5:
				d.bytes(t, text(rnd.Intn(5)))
			}
		}
	}
}

// P6.1: a nil reader tells ErrNone, whatever is asked, or nothing.
func TestNilReader(t *testing.T) {
	var r *bits.Reader
	for _, n := range append(wrongWidths(), 0, 1, 8, 31, 32) {
		if x, err := r.Bits(n); x != 0 || err != api.ErrNone {
			t.Errorf("Bits(%d) of nil: %x, %v", n, x, err)
		}
		if x, count := r.Peek(n); x != 0 || count != 0 {
			t.Errorf("Peek(%d) of nil: %x, %d", n, x, count)
		}
		if b, err := r.Bytes(n); len(b) != 0 || err != api.ErrNone {
			t.Errorf("Bytes(%d) of nil: %x, %v", n, b, err)
		}
		if r.Align() != 0 || r.At() != 0 || r.Left() != 0 {
			t.Errorf("nil: %d, %d, %d", r.Align(), r.At(), r.Left())
		}
	}
}

// P6.1: a nil writer tells ErrNone, whatever is written, or nothing.
func TestNilWriter(t *testing.T) {
	var w *bits.Writer
	for _, n := range append(wrongWidths(), 0, 1, 8, 31, 32) {
		for _, x := range []uint32{0, 1, math.MaxUint32} {
			if err := w.Put(x, n); err != api.ErrNone {
				t.Errorf("Put(%x, %d) of nil: %v", x, n, err)
			}
			if err := w.Code(x, n); err != api.ErrNone {
				t.Errorf("Code(%x, %d) of nil: %v", x, n, err)
			}
		}
	}
	for _, b := range [][]byte{nil, {}, {1}} {
		if err := w.Bytes(b); err != api.ErrNone {
			t.Errorf("Bytes of %d of nil: %v", len(b), err)
		}
	}
	if w.Align() != 0 || w.Len() != 0 || len(w.Text()) != 0 {
		t.Errorf("nil: %d, %d, %x", w.Align(), w.Len(), w.Text())
	}
}

// P6.1: two readers of the same bytes, and two writers, have nothing to do with each other.
func TestApart(t *testing.T) {
	b := text(40)
	first, second := pairAt(t, b, 0), pairAt(t, b, 0)
	one, other := deskAt(t, 0), deskAt(t, 0)
	for i := range 40 {
		first.bits(t, i%9)
		second.bits(t, i%5)
		one.put(t, uint32(i), 7)
		other.code(t, uint32(i), 6)
	}
	deskAt(t, 0).what(t, "NewWriter", 0, 0)
}

// Rule 5: the bytes of a reader are neither changed, spare room included, nor kept, and what it answers is new memory.
func TestReaderKeepsNothing(t *testing.T) {
	whole := text(100)
	was := bytes.Clone(whole)
	p := pairAt(t, whole[10:60:100], 0)
	p.bits(t, 13)
	p.align(t)
	got, err := p.r.Bytes(5)
	if err != nil || !bytes.Equal(got, was[12:17]) {
		t.Fatalf("Bytes(5): %x, %v", got, err)
	}
	again := pairAt(t, whole[10:60:100], 0)
	if !bytes.Equal(whole, was) {
		t.Error("the bytes were changed")
	}
	clear(whole)
	again.bits(t, 32)
	again.bytes(t, 46)
	if !bytes.Equal(got, was[12:17]) {
		t.Error("what Bytes answered changes with what was handed in")
	}
	// What is behind an answer, if it has spare room, is no byte that is read later.
	clear(append(got, text(20)...))
	p.m.at += 8 * 5
	p.bytes(t, 3)
	p.bits(t, 32)
	p.bytes(t, 36)
}

// Rule 5: the bytes that a writer gets are neither changed, spare room included, nor kept, and its Text is new memory.
func TestWriterKeepsNothing(t *testing.T) {
	whole := text(100)
	was := bytes.Clone(whole)
	d := deskAt(t, 0)
	d.bytes(t, whole[10:60:100])
	d.put(t, 0x1ff, 9)
	d.code(t, 0x1ff, 9)
	d.align(t)
	d.bytes(t, whole[:3])
	if !bytes.Equal(whole, was) {
		t.Error("the bytes were changed")
	}
	clear(whole)
	d.what(t, "Bytes", 0, 0)
	first, second := d.w.Text(), d.w.Text()
	clear(append(first, 1, 2, 3))
	clear(first)
	if !bytes.Equal(second, bytesOf(d.m.row)) {
		t.Error("two answers of Text share memory")
	}
	d.what(t, "Text", 0, 0)
	held := d.w.Text()
	d.bytes(t, held)
	d.put(t, 1, 1)
	if !bytes.Equal(held, second) {
		t.Error("what Text answered changes with what is written")
	}
}

// P6.1: a text of more bits than a number of 16 bits tells.
func TestLong(t *testing.T) {
	b := text(1 << 17)
	w := bits.NewWriter()
	if err := w.Put(1, 1); err != nil || w.Align() != 7 {
		t.Fatal(err)
	}
	if err := w.Bytes(b); err != nil || w.Len() != 8+8<<17 {
		t.Fatalf("%v, %d bits", err, w.Len())
	}
	r := bits.NewReader(w.Text())
	r.Bits(8)
	got, err := r.Bytes(1 << 17)
	if !bytes.Equal(got, b) || err != nil || r.At() != 8+8<<17 || r.Left() != 0 {
		t.Fatalf("%d bytes, %v, at %d", len(got), err, r.At())
	}
}

// piece is one thing that is written: a number in some bits, a code, filling, or bytes.
type piece struct {
	kind, n int
	x       uint32
	b       []byte
}

// pieceOf is a piece as the draws will.
func pieceOf(rnd *rand.Rand) piece {
	n := rnd.Intn(33)
	x := uint32(rnd.Uint64() & (1<<n - 1))
	return piece{kind: rnd.Intn(6), n: n, x: x, b: text(rnd.Intn(6))}
}

// write writes a piece; bytes stand behind filling.
func (p *piece) write(t *testing.T, w *bits.Writer) {
	t.Helper()
	var err error
	switch p.kind {
	case 0, 1, 2:
		err = w.Put(p.x, p.n)
	case 3:
		err = w.Code(p.x, p.n)
	case 4:
		p.n = w.Align()
	case 5:
		p.n = w.Align()
		err = w.Bytes(p.b)
	}
	if err != nil {
		t.Fatalf("%+v isn't written: %v", *p, err)
	}
}

// read asks that the piece is what is read next.
func (p *piece) read(t *testing.T, r *bits.Reader) {
	t.Helper()
	switch p.kind {
	case 0, 1, 2:
		if x, err := r.Bits(p.n); x != p.x || err != nil {
			t.Fatalf("%+v is read as %x, %v", *p, x, err)
		}
	case 3:
		for i := p.n - 1; i >= 0; i-- {
			if x, err := r.Bits(1); x != p.x>>i&1 || err != nil {
				t.Fatalf("%+v: bit %d is read as %x, %v", *p, i, x, err)
			}
		}
	default:
		p.readWhole(t, r)
	}
}

// readWhole asks that filling, which is bits 0, and perhaps bytes are what is read next.
func (p *piece) readWhole(t *testing.T, r *bits.Reader) {
	t.Helper()
	if x, n := r.Peek(p.n); x != 0 || n != p.n {
		t.Fatalf("%+v: the filling is %x, %d", *p, x, n)
	}
	if n := r.Align(); n != p.n {
		t.Fatalf("%+v: the filling is %d bits", *p, n)
	}
	if p.kind == 4 {
		return
	}
	if b, err := r.Bytes(len(p.b)); !bytes.Equal(b, p.b) || err != nil {
		t.Fatalf("%+v is read as %x, %v", *p, b, err)
	}
}

// P6.2: what is written is read, number by number, of any widths, with bytes and filling between.
func TestWrittenIsRead(t *testing.T) {
	for seed := range int64(600) {
		rnd := rand.New(rand.NewSource(seed))
		w := bits.NewWriter()
		pieces := make([]piece, rnd.Intn(80))
		ends := make([]int, len(pieces))
		for i := range pieces {
			pieces[i] = pieceOf(rnd)
			pieces[i].write(t, w)
			ends[i] = w.Len()
		}
		r := bits.NewReader(w.Text())
		for i := range pieces {
			pieces[i].read(t, r)
			if r.At() != ends[i] {
				t.Fatalf("seed %d: behind piece %d at %d: want %d", seed, i, r.At(), ends[i])
			}
		}
		// The last byte's filling is all that may be left.
		rest := (8 - w.Len()%8) % 8
		if x, n := r.Peek(32); x != 0 || n != rest {
			t.Fatalf("seed %d: left are %x, %d bits: want %d", seed, x, n, rest)
		}
		if _, err := r.Bits(rest + 1); err != api.ErrEnd {
			t.Fatalf("seed %d: behind all of it: %v", seed, err)
		}
	}
}

// P6.2: each width behind each other one, with the greatest and the least number.
func TestWidthsBesideEachOther(t *testing.T) {
	for a := range 33 {
		for b := range 33 {
			w := bits.NewWriter()
			most, least := uint32(uint64(1)<<a-1), uint32(0)
			for _, x := range []uint32{most, least, most} {
				if w.Put(x, a) != nil || w.Put(^x&uint32(uint64(1)<<b-1), b) != nil {
					t.Fatalf("widths %d, %d: not written", a, b)
				}
			}
			r := bits.NewReader(w.Text())
			for _, want := range []uint32{most, least, most} {
				x, err := r.Bits(a)
				y, err2 := r.Bits(b)
				if x != want || y != ^want&uint32(uint64(1)<<b-1) || err != nil || err2 != nil {
					t.Fatalf("widths %d, %d: %x, %x, %v, %v", a, b, x, y, err, err2)
				}
			}
		}
	}
}

// P6.2: the bits of any bytes, read in any widths and written in these, are the bytes again.
func TestReadIsWrittenBack(t *testing.T) {
	for seed := range int64(200) {
		rnd := rand.New(rand.NewSource(seed))
		b := text(rnd.Intn(100))
		r, w := bits.NewReader(b), bits.NewWriter()
		for r.Left() > 0 {
			n := min(rnd.Intn(33), r.Left())
			x, err := r.Bits(n)
			if err != nil || w.Put(x, n) != nil || w.Len() != r.At() {
				t.Fatalf("seed %d: %x in %d bits, %v: %d bits at %d", seed, x, n, err, w.Len(), r.At())
			}
		}
		if got := w.Text(); !bytes.Equal(got, b) {
			t.Fatalf("seed %d: %x: want %x", seed, got, b)
		}
	}
}
