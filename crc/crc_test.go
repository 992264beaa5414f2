package crc_test

import (
	"bytes"
	"hash/crc32"
	"math/rand"
	"strings"
	"testing"

	"crossdock/crc"
)

// text is so many bytes that look unlike each other.
func text(size int) []byte {
	b := make([]byte, size)
	rand.New(rand.NewSource(int64(size))).Read(b)
	return b
}

// shifted is the register after so many shifts, one by one, as the chapter tells them.
func shifted(register uint32, times int) uint32 {
	for range times {
		out := register & 1
		register >>= 1
		if out == 1 {
			register ^= 0xedb88320
		}
	}
	return register
}

// truth is Add as the chapter tells it, bit by bit.
func truth(sum uint32, b []byte) uint32 {
	register := ^sum
	for _, x := range b {
		register = shifted(register^uint32(x), 8)
	}
	return ^register
}

// edgeSums are numbers at the edges of 32 bits, and each single bit.
func edgeSums() []uint32 {
	sums := []uint32{0, 0xffffffff, 0x7fffffff, 0xfffffffe, 0xedb88320, 0x12477cdf, 0x55555555, 0xaaaaaaaa}
	for i := range 32 {
		sums = append(sums, 1<<i)
	}
	return sums
}

// P4.1: sums that are known from elsewhere; the chapter's example is among them.
func TestKnown(t *testing.T) {
	for text, want := range map[string]uint32{
		"":                           0,
		"a":                          0xe8b7be43,
		"abc":                        0x352441c2,
		"123456789":                  0xcbf43926,
		strings.Repeat("\x00", 32):   0x190a55ad,
		strings.Repeat("\xff", 32):   0xff6cab0b,
		"\xff\xff\xff\xff":           0xffffffff,
		strings.Repeat("a", 1000000): 0xdc25bfbc,
		"The quick brown fox jumps over the lazy dog": 0x414fa339,
	} {
		if got := crc.Of([]byte(text)); got != want {
			t.Errorf("Of %d bytes is %08x: want %08x", len(text), got, want)
		}
	}
}

// P4.1: no bytes: nil and the empty list are the same, and Add of them changes no number.
func TestNoBytes(t *testing.T) {
	for _, b := range [][]byte{nil, {}, make([]byte, 0, 8)} {
		if got := crc.Of(b); got != 0 {
			t.Errorf("Of no bytes is %08x", got)
		}
		for _, sum := range edgeSums() {
			if got := crc.Add(sum, b); got != sum {
				t.Errorf("Add(%08x) of no bytes is %08x", sum, got)
			}
		}
	}
}

// P4.1: each single byte, behind no text and behind any number.
func TestSingleBytes(t *testing.T) {
	for x := range 256 {
		b := []byte{byte(x)}
		if got, want := crc.Of(b), truth(0, b); got != want {
			t.Errorf("Of byte %d is %08x: want %08x", x, got, want)
		}
		for _, sum := range edgeSums() {
			if got, want := crc.Add(sum, b), truth(sum, b); got != want {
				t.Errorf("Add(%08x) of byte %d is %08x: want %08x", sum, x, got, want)
			}
		}
	}
}

// P4.1: texts of many lengths, against the chapter's words and the library's own sum.
func TestAllLengths(t *testing.T) {
	for size := range 600 {
		b := text(size)
		got := crc.Of(b)
		if want := truth(0, b); got != want {
			t.Fatalf("Of %d bytes is %08x: want %08x", size, got, want)
		}
		if want := crc32.ChecksumIEEE(b); got != want {
			t.Fatalf("Of %d bytes is %08x: the library's is %08x", size, got, want)
		}
	}
	for _, size := range []int{4095, 4096, 65535, 65536, 65537, 1 << 20} {
		b := text(size)
		if got, want := crc.Of(b), crc32.ChecksumIEEE(b); got != want {
			t.Errorf("Of %d bytes is %08x: want %08x", size, got, want)
		}
	}
}

// P4.1: texts of one sign only, where a number's every bit is a nought, or none is.
func TestPlainTexts(t *testing.T) {
	for _, sign := range []byte{0, 1, 127, 128, 255} {
		for size := range 70 {
			b := bytes.Repeat([]byte{sign}, size)
			if got, want := crc.Of(b), truth(0, b); got != want {
				t.Errorf("Of %d times %d is %08x: want %08x", size, sign, got, want)
			}
		}
	}
}

// P4.1: Add of any number with any bytes, whether or not some text has that sum.
func TestAddAnyNumber(t *testing.T) {
	r := rand.New(rand.NewSource(4))
	sums := edgeSums()
	for range 2000 {
		sums = append(sums, r.Uint32())
	}
	for i, sum := range sums {
		b := text(i % 67)
		got := crc.Add(sum, b)
		if want := truth(sum, b); got != want {
			t.Fatalf("Add(%08x) of %d bytes is %08x: want %08x", sum, len(b), got, want)
		}
		if want := crc32.Update(sum, crc32.IEEETable, b); got != want {
			t.Fatalf("Add(%08x) of %d bytes is %08x: the library's is %08x", sum, len(b), got, want)
		}
	}
}

// P4.1: the table's sixteen entries, and that what was handed out before is the asker's own.
func TestTable(t *testing.T) {
	first := crc.Table()
	for i, got := range first {
		if want := shifted(uint32(i), 4); got != want {
			t.Errorf("entry %d is %08x: want %08x", i, got, want)
		}
	}
	changed := crc.Table()
	for i := range changed {
		changed[i] = 0x01010101
	}
	if crc.Table() != first {
		t.Error("a change of what Table answered is seen in its next answer")
	}
	if got := crc.Of([]byte("123456789")); got != 0xcbf43926 {
		t.Errorf("a change of what Table answered is seen in a sum: %08x", got)
	}
}

// P4.1: bytes that are handed in are left as they are, and so is the room behind them; that room is no part of the text.
func TestArgumentsUnchanged(t *testing.T) {
	whole := text(64)
	for size := range whole {
		b := bytes.Clone(whole)
		if got, want := crc.Of(b[:size]), truth(0, whole[:size]); got != want {
			t.Errorf("Of %d bytes with room behind is %08x: want %08x", size, got, want)
		}
		if got, want := crc.Add(7, b[:size]), truth(7, whole[:size]); got != want {
			t.Errorf("Add of %d bytes with room behind is %08x: want %08x", size, got, want)
		}
		if !bytes.Equal(b, whole) {
			t.Fatalf("the bytes were changed at size %d", size)
		}
	}
}

// P4.1: an answer hangs on nothing but what was given: the same again after other calls, and after the bytes were changed.
func TestNothingKept(t *testing.T) {
	b := []byte("123456789")
	first := crc.Of(b)
	b[0] = '2'
	if crc.Of(b) == first {
		t.Error("Of a changed text has the sum of the text before")
	}
	b[0] = '1'
	crc.Add(0xdeadbeef, text(100))
	if got := crc.Of(b); got != first {
		t.Errorf("Of the same text again is %08x: want %08x", got, first)
	}
}

// P4.2: Add of a text's sum at any cut is the sum of the whole.
func TestCuts(t *testing.T) {
	for _, size := range []int{0, 1, 2, 3, 4, 5, 8, 15, 16, 17, 64, 255, 256, 300} {
		b := text(size)
		want := crc.Of(b)
		for i := range size + 1 {
			head := crc.Of(b[:i])
			if got := crc.Add(head, b[i:]); got != want {
				t.Fatalf("%d bytes cut at %d: %08x, not %08x", size, i, got, want)
			}
			middle := i + (size-i)/2
			if got := crc.Add(crc.Add(head, b[i:middle]), b[middle:]); got != want {
				t.Fatalf("%d bytes cut at %d and %d: %08x, not %08x", size, i, middle, got, want)
			}
		}
	}
}

// P4.2: a text that comes byte by byte, with nothing between them.
func TestByteByByte(t *testing.T) {
	b := text(500)
	sum := crc.Of(nil)
	for i := range b {
		sum = crc.Add(sum, b[i:i+1])
		sum = crc.Add(sum, nil)
		if want := crc.Of(b[:i+1]); sum != want {
			t.Fatalf("after %d bytes: %08x, not %08x", i+1, sum, want)
		}
	}
}

// turned is the text with the pattern's bits turned, the pattern's lowest bit at the given one of the text. Bits stand in a row as the register takes them, a byte's lowest bit first: in the other order 32 in a row may lie 40 apart for the register, and some of these it doesn't see.
func turned(b []byte, at int, pattern uint32) []byte {
	c := bytes.Clone(b)
	for i := range 32 {
		if pattern>>i&1 == 1 {
			c[(at+i)/8] ^= 1 << ((at + i) % 8)
		}
	}
	return c
}

// wantOtherSum asks that the text with those bits turned has another sum than it had, where the text has those bits.
func wantOtherSum(t *testing.T, b []byte, at int, pattern uint32, sum uint32) {
	t.Helper()
	for i := range 32 {
		if pattern>>i&1 == 1 && at+i >= len(b)*8 {
			return
		}
	}
	if got := crc.Of(turned(b, at, pattern)); got == sum {
		t.Fatalf("%d bytes, bits %08x turned at %d: the sum is still %08x", len(b), pattern, at, got)
	}
}

// P4.2: one bit turned, two bits turned, and all bits of a row turned, at each place.
func TestTurnedRows(t *testing.T) {
	for _, size := range []int{1, 2, 3, 4, 5, 8, 33} {
		b := text(size)
		sum := crc.Of(b)
		for at := range size * 8 {
			for row := range 32 {
				wantOtherSum(t, b, at, 1|1<<row, sum)
				wantOtherSum(t, b, at, uint32(1<<(row+1)-1), sum)
			}
		}
	}
}

// P4.2: all patterns of ten bits at each place of a short text, and any patterns of 32 bits in longer ones.
func TestTurnedPatterns(t *testing.T) {
	short := text(6)
	sum := crc.Of(short)
	for at := range len(short) * 8 {
		for pattern := uint32(1); pattern < 1<<10; pattern += 2 {
			wantOtherSum(t, short, at, pattern, sum)
		}
	}
	r := rand.New(rand.NewSource(32))
	for range 20000 {
		b := text(4 + r.Intn(200))
		at := r.Intn(len(b)*8 - 31)
		wantOtherSum(t, b, at, r.Uint32()|1, crc.Of(b))
	}
}

// P4.2: the pattern of the sum's own number is the one that 33 bits in a row could hide: within 32 it's seen.
func TestTurnedOwnNumber(t *testing.T) {
	b := text(40)
	sum := crc.Of(b)
	for at := range len(b)*8 - 31 {
		for _, pattern := range []uint32{0xedb88320, 0x04c11db7, 0xdb710641, 0x82608edb, 0xffffffff} {
			wantOtherSum(t, b, at, pattern, sum)
		}
	}
}
