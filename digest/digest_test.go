package digest_test

import (
	"bytes"
	"crypto/sha256"
	"encoding/hex"
	"math/rand"
	"strings"
	"testing"

	"crossdock/api"
	"crossdock/digest"
	"crossdock/sha"
)

const (
	beginning = "sha256:"
	noBytes   = "e3b0c44298fc1c149afbf4c8996fb92427ae41e4649b934ca495991b7852b855"
	abc       = "ba7816bf8f01cfea414140de5dae2223b00361a396177a9cb410ff61f20015ad"
)

// blob is so many bytes that look unlike each other.
func blob(size int) []byte {
	b := make([]byte, size)
	rand.New(rand.NewSource(int64(size))).Read(b)
	return b
}

// figuresOf are the figures of a text's digest, by the library.
func figuresOf(text string) string {
	s := sha256.Sum256([]byte(text))
	return hex.EncodeToString(s[:])
}

// sums are digests at their edges: each byte alone, and each of its values.
func sums() []sha.Sum {
	all := []sha.Sum{{}, sha.Of()}
	for i := range len(sha.Sum{}) {
		var s sha.Sum
		s[i] = 1
		all = append(all, s)
	}
	for v := range 256 {
		var s sha.Sum
		for i := range s {
			s[i] = byte(v + i)
		}
		all = append(all, s)
	}
	return all
}

// wrongFigures are texts that aren't 64 hexadecimal figures.
func wrongFigures() []string {
	wrong := []string{
		"", "0", "00", noBytes[1:], noBytes[2:], noBytes[:63], noBytes[:62], noBytes[:32],
		noBytes + "0", noBytes + "00", noBytes + noBytes, "0" + noBytes, "00" + noBytes,
		noBytes + "\n", noBytes + " ", noBytes + "\x00", " " + noBytes, "\t" + noBytes[1:],
		noBytes[:63] + "\n", noBytes[:63] + "\x00", "0x" + noBytes, "0x" + noBytes[2:],
		strings.ToUpper(noBytes), strings.Repeat("A", 64), strings.Repeat("é", 32), strings.Repeat("٠", 32),
		strings.Repeat("\xff", 64), strings.Repeat(" ", 64), strings.Repeat("0", 1<<16),
		beginning + noBytes, beginning, beginning + noBytes[7:],
	}
	// Each place of a figure is asked, with each byte that is none.
	for i := range noBytes {
		for v := range 256 {
			sign := string([]byte{byte(v)})
			if !strings.Contains("0123456789abcdef", sign) {
				wrong = append(wrong, noBytes[:i]+sign+noBytes[i+1:])
			}
		}
	}
	return wrong
}

// wrongNames are texts that are no names: of wrong figures, or of another beginning.
func wrongNames() []string {
	wrong := []string{
		"", ":", "sha256", beginning, noBytes, "sha256" + noBytes, "sha256;" + noBytes, "sha256::" + noBytes,
		"sha256: " + noBytes, " sha256:" + noBytes, "\nsha256:" + noBytes, "xsha256:" + noBytes,
		"ha256:" + noBytes, ":" + noBytes, "sha512:" + noBytes, "sha255:" + noBytes, "md5:" + noBytes,
		"SHA256:" + noBytes, "Sha256:" + noBytes, "shA256:" + noBytes, "sha-256:" + noBytes,
		"sha256+b64:" + noBytes, noBytes + beginning, noBytes + ":sha256",
		beginning + beginning + noBytes, "tarsum+sha256:" + noBytes, "sha256\x00" + noBytes,
	}
	for i := range beginning {
		for v := range 256 {
			text := beginning[:i] + string([]byte{byte(v)}) + beginning[i+1:]
			if text != beginning {
				wrong = append(wrong, text+noBytes)
			}
		}
	}
	for _, figures := range wrongFigures() {
		wrong = append(wrong, beginning+figures)
	}
	return wrong
}

// wantName asks all calls at a name, of which the figures and the digest are known.
func wantName(t *testing.T, figures string, s sha.Sum) {
	t.Helper()
	name := beginning + figures
	if got := digest.Name(s); got != name {
		t.Errorf("Name of %x: %q: want %q", s, got, name)
	}
	if got, err := digest.Parse(name); got != s || err != nil {
		t.Errorf("Parse of %q: %x, %v: want %x", name, got, err, s)
	}
	if !digest.Is(name) {
		t.Errorf("Is of %q: want it to be a name", name)
	}
	if got, err := digest.Short(name); got != figures || err != nil {
		t.Errorf("Short of %q: %q, %v: want %q", name, got, err, figures)
	}
	if got, err := digest.Long(figures); got != name || err != nil {
		t.Errorf("Long of %q: %q, %v: want %q", figures, got, err, name)
	}
}

// P5.1: names that are known from elsewhere; the chapter's example is among them.
func TestKnown(t *testing.T) {
	for text, figures := range map[string]string{
		"":    noBytes,
		"abc": abc,
		"a":   "ca978112ca1bbdcafac231b39a23dc4da786eff8147c4e72b9807785afee48bb",
		"a b": "c8687a08aa5d6ed2044328fa6a697ab8e96dc34291e8c2034ae8c38e6fcc6d65",
	} {
		if got := digest.Of([]byte(text)); got != beginning+figures {
			t.Errorf("Of %q: %q: want the figures %s", text, got, figures)
		}
		wantName(t, figures, sha.Of([]byte(text)))
	}
}

// P5.1: a blob's name is that of its digest, by the library's SHA-256.
func TestOfIsAsSaid(t *testing.T) {
	for size := range 300 {
		b := blob(size)
		if got, want := digest.Of(b), beginning+figuresOf(string(b)); got != want {
			t.Errorf("Of %d bytes: %q: want %q", size, got, want)
		}
		if err := digest.Verify(digest.Of(b), b); err != nil {
			t.Errorf("Verify of %d bytes by their name: %v", size, err)
		}
	}
}

// P5.1, rule 4: nil and no bytes are called the same.
func TestNilIsNoBytes(t *testing.T) {
	for _, b := range [][]byte{nil, {}, make([]byte, 0, 8)} {
		if got := digest.Of(b); got != beginning+noBytes {
			t.Errorf("Of no bytes (nil: %v): %q", b == nil, got)
		}
		if err := digest.Verify(beginning+noBytes, b); err != nil {
			t.Errorf("Verify of no bytes (nil: %v): %v", b == nil, err)
		}
		if err := digest.Verify(beginning+abc, b); err != api.ErrSum {
			t.Errorf("Verify of no bytes (nil: %v) by another name: %v: want ErrSum", b == nil, err)
		}
	}
}

// P5.1: each digest has its name, there and back.
func TestThereAndBack(t *testing.T) {
	for _, s := range sums() {
		wantName(t, hex.EncodeToString(s[:]), s)
	}
}

// P5.1, rule 2: what is no name is ErrForm, with nothing beside it.
func TestNoNames(t *testing.T) {
	for _, name := range wrongNames() {
		if s, err := digest.Parse(name); s != (sha.Sum{}) || err != api.ErrForm {
			t.Errorf("Parse of %q: %x, %v: want ErrForm alone", name, s, err)
		}
		if digest.Is(name) {
			t.Errorf("Is of %q: want it to be no name", name)
		}
		if figures, err := digest.Short(name); figures != "" || err != api.ErrForm {
			t.Errorf("Short of %q: %q, %v: want ErrForm alone", name, figures, err)
		}
	}
}

// P5.1, rule 2: what aren't 64 figures is ErrForm, with nothing beside it.
func TestNoFigures(t *testing.T) {
	for _, figures := range wrongFigures() {
		if name, err := digest.Long(figures); name != "" || err != api.ErrForm {
			t.Errorf("Long of %q: %q, %v: want ErrForm alone", figures, name, err)
		}
	}
}

// P5.1: no name is ErrForm whatever the blob, also where its figures are the blob's but for capitals.
func TestVerifyOfNoName(t *testing.T) {
	for _, name := range wrongNames() {
		for _, b := range [][]byte{nil, []byte("abc"), []byte(name)} {
			if err := digest.Verify(name, b); err != api.ErrForm {
				t.Errorf("Verify of %q, %q: %v: want ErrForm", name, b, err)
			}
		}
	}
}

// P5.1: another blob's name is ErrSum, however like the blob's own it is.
func TestVerifyOfAnotherName(t *testing.T) {
	b := []byte("abc")
	for _, name := range []string{digest.Of(nil), digest.Of([]byte("abd")), digest.Of([]byte("abc\x00")), digest.Name(sha.Sum{})} {
		if err := digest.Verify(name, b); err != api.ErrSum {
			t.Errorf("Verify of %q: %v: want ErrSum", name, err)
		}
	}
	for i := range abc {
		for _, figure := range "0123456789abcdef" {
			other := abc[:i] + string(figure) + abc[i+1:]
			err := digest.Verify(beginning+other, b)
			if other == abc && err != nil || other != abc && err != api.ErrSum {
				t.Errorf("Verify of abc by %s: %v", other, err)
			}
		}
	}
}

// P5.1: each bit of a blob that is turned makes it another one.
func TestVerifyOfAnotherBlob(t *testing.T) {
	b := blob(200)
	name := digest.Of(b)
	for i := range 8 * len(b) {
		other := bytes.Clone(b)
		other[i/8] ^= 1 << (i % 8)
		if err := digest.Verify(name, other); err != api.ErrSum {
			t.Errorf("Verify with bit %d turned: %v: want ErrSum", i, err)
		}
	}
	if err := digest.Verify(name, b[:199]); err != api.ErrSum {
		t.Errorf("Verify without the last byte: %v: want ErrSum", err)
	}
}

// P5.1: to chain is the name of the first, a blank and the second, whatever texts they are.
func TestChain(t *testing.T) {
	texts := []string{
		"", " ", "  ", "a", "b", "a b", "b a", "\x00", "\xff\xfe", "é", "\n", "abc\x00",
		beginning, noBytes, beginning + noBytes, beginning + abc, strings.ToUpper(beginning + abc),
		strings.Repeat("x", 55), strings.Repeat("y", 64), strings.Repeat("z", 1<<12), string(blob(1000)),
	}
	for _, a := range texts {
		for _, b := range texts {
			if got, want := digest.Chain(a, b), beginning+figuresOf(a+" "+b); got != want {
				t.Errorf("Chain of %q, %q: %q: want %q", a, b, got, want)
			}
		}
	}
}

// P5.1: chained names are a name, which is chained on; the order counts.
func TestChainOfChains(t *testing.T) {
	a, b, c := digest.Of([]byte("a")), digest.Of([]byte("b")), digest.Of([]byte("c"))
	ab := digest.Chain(a, b)
	if !digest.Is(ab) || digest.Verify(ab, []byte(a+" "+b)) != nil {
		t.Errorf("Chain of a and b: %q", ab)
	}
	if ab == digest.Chain(b, a) || digest.Chain(ab, c) == digest.Chain(a, digest.Chain(b, c)) {
		t.Error("the order of a chain doesn't count")
	}
	if got, want := digest.Chain(ab, c), digest.Of([]byte(ab+" "+c)); got != want {
		t.Errorf("Chain of ab and c: %q: want %q", got, want)
	}
}

// Rule 5: what is handed in stays as it was, spare room included, and isn't kept.
func TestArgumentsStay(t *testing.T) {
	whole := blob(100)
	was := bytes.Clone(whole)
	b := whole[10:60:100]
	name := digest.Of(b)
	if err := digest.Verify(name, b); err != nil {
		t.Errorf("Verify: %v", err)
	}
	if !bytes.Equal(whole, was) {
		t.Error("a blob was changed")
	}
	kept := strings.Clone(name)
	clear(whole)
	if name != kept {
		t.Error("a name changes with its blob")
	}
	if err := digest.Verify(name, b); err != api.ErrSum {
		t.Errorf("Verify of a changed blob: %v: want ErrSum", err)
	}
}

// Rule 8: what was asked ahead is without weight.
func TestAnswersStay(t *testing.T) {
	for range 3 {
		wantName(t, abc, sha.Of([]byte("abc")))
		digest.Parse(beginning + noBytes)
		digest.Parse("no name")
		digest.Long("no figures")
		digest.Chain("a", "b")
		if err := digest.Verify(beginning+abc, []byte("abc")); err != nil {
			t.Errorf("Verify: %v", err)
		}
	}
}
