package sha_test

import (
	"bytes"
	"crypto/sha256"
	"encoding/hex"
	"math/rand"
	"strings"
	"testing"

	"crossdock/sha"
)

// text is so many bytes that look unlike each other.
func text(size int) []byte {
	b := make([]byte, size)
	rand.New(rand.NewSource(int64(size))).Read(b)
	return b
}

// truth is the library's own digest of the text.
func truth(b []byte) sha.Sum {
	return sha.Sum(sha256.Sum256(b))
}

// wantText asks that the hash tells of just this text.
func wantText(t *testing.T, h *sha.Hash, b []byte) {
	t.Helper()
	if h.Len() != len(b) {
		t.Fatalf("Len is %d: want %d", h.Len(), len(b))
	}
	if got, want := h.Sum(), truth(b); got != want {
		t.Fatalf("Sum of %d bytes is %x: want %x", len(b), got, want)
	}
}

// P3.1: digests that stand in the chapter and in the standard.
func TestKnown(t *testing.T) {
	for text, want := range map[string]string{
		"":    "e3b0c44298fc1c149afbf4c8996fb92427ae41e4649b934ca495991b7852b855",
		"abc": "ba7816bf8f01cfea414140de5dae2223b00361a396177a9cb410ff61f20015ad",
		"abcdbcdecdefdefgefghfghighijhijkijkljklmklmnlmnomnopnopq":                                                         "248d6a61d20638b8e5c026930c3e6039a33ce45964ff2167f6ecedd419db06c1",
		"abcdefghbcdefghicdefghijdefghijkefghijklfghijklmghijklmnhijklmnoijklmnopjklmnopqklmnopqrlmnopqrsmnopqrstnopqrstu": "cf5b16a778af8380036ce59e7b0492370b249b11e8f07a51afac45037afee9d1",
		strings.Repeat("a", 1000000): "cdc76e5c9914fb9281a1c7e284d73e67f1809a48a497200e046d39ccc7112cd0",
	} {
		got := sha.Of([]byte(text))
		if hex.EncodeToString(got[:]) != want {
			t.Errorf("Of %d bytes is %x: want %s", len(text), got, want)
		}
	}
}

// P3.1: all lengths round the ends of the first blocks (55, 56, 63, 64, 65 and their like), as a whole and byte by byte.
func TestAllLengths(t *testing.T) {
	for size := range 400 {
		b := text(size)
		if got, want := sha.Of(b), truth(b); got != want {
			t.Fatalf("Of %d bytes is %x: want %x", size, got, want)
		}
		whole := sha.New()
		if n := whole.Write(b); n != size {
			t.Fatalf("Write of %d bytes is %d", size, n)
		}
		wantText(t, whole, b)
		single := sha.New()
		for i := range b {
			if n := single.Write(b[i : i+1]); n != i+1 {
				t.Fatalf("Write of byte %d is %d", i, n)
			}
		}
		wantText(t, single, b)
	}
}

// P3.1: texts of one sign only, where a number's every bit is a nought, or none is.
func TestPlainTexts(t *testing.T) {
	for _, sign := range []byte{0, 1, 127, 128, 255} {
		for _, size := range []int{1, 55, 56, 63, 64, 65, 119, 120, 128, 1000} {
			b := bytes.Repeat([]byte{sign}, size)
			if got, want := sha.Of(b), truth(b); got != want {
				t.Errorf("Of %d times %d is %x: want %x", size, sign, got, want)
			}
		}
	}
}

// P3.1: each single bit of a text counts.
func TestBits(t *testing.T) {
	b := make([]byte, 64)
	for i := range 8 * len(b) {
		b[i/8] ^= 1 << (i % 8)
		if got, want := sha.Of(b), truth(b); got != want {
			t.Errorf("bit %d: %x: want %x", i, got, want)
		}
		b[i/8] ^= 1 << (i % 8)
	}
}

// P3.1: a text that is cut in two, and in three, at any place, with Sum asked for at each cut.
func TestCuts(t *testing.T) {
	for _, size := range []int{1, 2, 55, 56, 63, 64, 65, 127, 128, 129, 200} {
		b := text(size)
		want := truth(b)
		for i := range size + 1 {
			h := sha.New()
			if n := h.Write(b[:i]); n != i {
				t.Fatalf("Write of %d bytes is %d", i, n)
			}
			wantText(t, h, b[:i])
			if n := h.Write(b[i:]); n != size {
				t.Fatalf("Write up to %d bytes is %d", size, n)
			}
			wantText(t, h, b)
			for j := i; j <= size; j++ {
				if got := sha.Of(b[:i], b[i:j], b[j:]); got != want {
					t.Fatalf("Of %d bytes, cut at %d and %d, is %x: want %x", size, i, j, got, want)
				}
			}
		}
	}
}

// P3.1: long texts in parts of many sizes, empty ones and nil among them.
func TestManyParts(t *testing.T) {
	r := rand.New(rand.NewSource(3))
	for range 200 {
		b := text(r.Intn(5000))
		var parts [][]byte
		h := sha.New()
		for done := 0; done < len(b); {
			next := min(len(b), done+r.Intn(1+r.Intn(300)))
			parts = append(parts, b[done:next], nil, []byte{})
			for _, p := range parts[len(parts)-3:] {
				if n := h.Write(p); n != next {
					t.Fatalf("Write is %d: want %d", n, next)
				}
			}
			done = next
		}
		wantText(t, h, b)
		if got, want := sha.Of(parts...), truth(b); got != want {
			t.Fatalf("Of %d parts is %x: want %x", len(parts), got, want)
		}
	}
}

// P3.1: nothing is written by empty and nil parts, and by none at all.
func TestNothing(t *testing.T) {
	empty := truth(nil)
	h := sha.New()
	wantText(t, h, nil)
	if h.Write(nil) != 0 || h.Write([]byte{}) != 0 {
		t.Error("a Write of nothing is not 0")
	}
	wantText(t, h, nil)
	for i, got := range []sha.Sum{sha.Of(), sha.Of(nil), sha.Of([]byte{}), sha.Of(nil, []byte{}, nil)} {
		if got != empty {
			t.Errorf("Of nothing (%d) is %x: want %x", i, got, empty)
		}
	}
}

// P3.1: Sum may be asked for as often as one likes, and tells of the text so far.
func TestSumBetween(t *testing.T) {
	b := text(300)
	h := sha.New()
	sums := []sha.Sum{h.Sum()}
	for i := range b {
		h.Write(b[i : i+1])
		first, second := h.Sum(), h.Sum()
		if first != second {
			t.Fatalf("Sum of %d bytes is %x, and then %x", i+1, first, second)
		}
		sums = append(sums, first)
	}
	for i, got := range sums {
		if want := truth(b[:i]); got != want {
			t.Fatalf("Sum of %d bytes was %x: want %x", i, got, want)
		}
	}
}

// P3.1: a nil Hash has no text, and gets none.
func TestNilHash(t *testing.T) {
	var h *sha.Hash
	for _, b := range [][]byte{nil, {}, {1}, text(64), text(200)} {
		if n := h.Write(b); n != 0 {
			t.Errorf("Write of %d bytes to nil is %d", len(b), n)
		}
		if h.Len() != 0 || h.Sum() != truth(nil) {
			t.Errorf("nil: %d, %x", h.Len(), h.Sum())
		}
	}
}

// P3.1: two hashes have nothing to do with each other.
func TestApart(t *testing.T) {
	a, b := text(150), text(170)
	first, second := sha.New(), sha.New()
	for i := range 170 {
		first.Write(a[min(i, 150):min(i+1, 150)])
		second.Write(b[i : i+1])
	}
	wantText(t, first, a)
	wantText(t, second, b)
	wantText(t, sha.New(), nil)
}

// P3.1, and rule 5: what is handed in is neither changed, spare room included, nor kept.
func TestArguments(t *testing.T) {
	room := text(300)
	before := bytes.Clone(room)
	h := sha.New()
	h.Write(room[:100])
	sha.Of(room[100:110], room[50:170])
	h.Sum()
	if !bytes.Equal(room, before) {
		t.Fatal("an argument was changed")
	}
	clear(room)
	wantText(t, h, before[:100])
	parts := [][]byte{before[:10], nil, before[10:20]}
	sha.Of(parts[:2]...)
	if len(parts[0]) != 10 || parts[1] != nil || len(parts[2]) != 10 {
		t.Error("a list of parts was changed")
	}
}

// P3.1: two Sums may be compared, and an answer that is changed changes no other one.
func TestSums(t *testing.T) {
	h := sha.New()
	h.Write([]byte("abc"))
	sum := h.Sum()
	if sum != sha.Of([]byte("ab"), []byte("c")) || sum == sha.Of([]byte("ab"), []byte("d")) {
		t.Error("Sums compare otherwise than their texts")
	}
	clear(sum[:])
	wantText(t, h, []byte("abc"))
}

// P3.1: a text of more than 2^32 bits has its length in more than four bytes.
func TestLong(t *testing.T) {
	const times = 1<<9 + 1
	part := text(1 << 20)
	h, want := sha.New(), sha256.New()
	for i := range times {
		if n := h.Write(part); n != (i+1)<<20 {
			t.Fatalf("Write is %d: want %d", n, (i+1)<<20)
		}
		want.Write(part)
	}
	if got := h.Sum(); !bytes.Equal(got[:], want.Sum(nil)) {
		t.Errorf("Sum is %x: want %x", got, want.Sum(nil))
	}
}
