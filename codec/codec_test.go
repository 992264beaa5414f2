package codec_test

import (
	"bytes"
	"encoding/base64"
	"encoding/hex"
	"math/rand"
	"strings"
	"testing"

	"crossdock/api"
	"crossdock/codec"
)

// kind is a pair of calls, with the library's own way of writing the same text.
type kind struct {
	name  string
	write func([]byte) string
	read  func(string) ([]byte, error)
	truth func([]byte) string
}

var kinds = []kind{
	{"hex", codec.Hex, codec.Unhex, hex.EncodeToString},
	{"base", codec.Base, codec.Unbase, base64.StdEncoding.EncodeToString},
	{"url", codec.Url, codec.Unurl, base64.RawURLEncoding.EncodeToString},
}

// wantPair asks that the bytes are written as they should, and read back.
func wantPair(t *testing.T, k kind, b []byte) {
	t.Helper()
	text := k.write(b)
	if want := k.truth(b); text != want {
		t.Fatalf("%s of %v: %q: want %q", k.name, b, text, want)
	}
	back, err := k.read(text)
	if err != nil || !bytes.Equal(back, b) {
		t.Fatalf("%s of %q: %v, %v: want %v", k.name, text, back, err, b)
	}
}

// wantRefused asks for ErrForm, with no bytes beside it.
func wantRefused(t *testing.T, k kind, s string) {
	t.Helper()
	b, err := k.read(s)
	if err != api.ErrForm || b != nil {
		t.Errorf("%s of %q: %v, %v: want ErrForm alone", k.name, s, b, err)
	}
}

// wantOneText asks that the text is refused, or that it is just what its bytes are written as.
func wantOneText(t *testing.T, k kind, s string) bool {
	t.Helper()
	b, err := k.read(s)
	if err == nil {
		if k.truth(b) != s {
			t.Fatalf("%s of %q: %v, which is %q", k.name, s, b, k.truth(b))
		}
		return true
	}
	if err != api.ErrForm || b != nil {
		t.Fatalf("%s of %q: %v, %v: want ErrForm alone", k.name, s, b, err)
	}
	return false
}

// P2.1: the chapter's examples, no bytes, and one, two and three bytes at the end.
func TestTextsAreAsSaid(t *testing.T) {
	for _, c := range []struct{ bytes, hex, base, url string }{
		{"", "", "", ""},
		{"f", "66", "Zg==", "Zg"},
		{"\x66\x6f", "666f", "Zm8=", "Zm8"},
		{"foo", "666f6f", "Zm9v", "Zm9v"},
		{"foob", "666f6f62", "Zm9vYg==", "Zm9vYg"},
		{"fooba", "666f6f6261", "Zm9vYmE=", "Zm9vYmE"},
		{"foobar", "666f6f626172", "Zm9vYmFy", "Zm9vYmFy"},
		{"\x00", "00", "AA==", "AA"},
		{"\x00\x00\x00", "000000", "AAAA", "AAAA"},
		{"\xff\xff\xff", "ffffff", "////", "____"},
		{"\xfb\xef\xbe", "fbefbe", "++++", "----"},
		{"\x09\xa0\xf9\x1a", "09a0f91a", "CaD5Gg==", "CaD5Gg"},
	} {
		for i, want := range []string{c.hex, c.base, c.url} {
			k := kinds[i]
			if got := k.write([]byte(c.bytes)); got != want {
				t.Errorf("%s of %q: %q: want %q", k.name, c.bytes, got, want)
			}
			if got, err := k.read(want); err != nil || string(got) != c.bytes {
				t.Errorf("%s of %q: %q, %v: want %q", k.name, want, got, err, c.bytes)
			}
		}
	}
}

// P2.1, rule 4: nil and no bytes are the same.
func TestNilIsNoBytes(t *testing.T) {
	for _, k := range kinds {
		if k.write(nil) != "" || k.write([]byte{}) != "" {
			t.Errorf("%s: nil %q, empty %q: want none", k.name, k.write(nil), k.write([]byte{}))
		}
		if b, err := k.read(""); err != nil || len(b) != 0 {
			t.Errorf("%s of no text: %v, %v: want no bytes", k.name, b, err)
		}
	}
}

// P2.1: each value of six bits has its sign, and of each kind its own.
func TestEachSign(t *testing.T) {
	const letters = "ABCDEFGHIJKLMNOPQRSTUVWXYZabcdefghijklmnopqrstuvwxyz0123456789"
	for i, signs := range []string{letters + "+/", letters + "-_"} {
		k := kinds[i+1]
		for v := range 64 {
			text := "AAA" + signs[v:v+1]
			if got := k.write([]byte{0, 0, byte(v)}); got != text {
				t.Errorf("%s of %d: %q: want %q", k.name, v, got, text)
			}
			if b, err := k.read(text); err != nil || !bytes.Equal(b, []byte{0, 0, byte(v)}) {
				t.Errorf("%s of %q: %v, %v: want %d", k.name, text, b, err, v)
			}
		}
	}
}

// P2.1, P2.2: all rows of one and of two bytes.
func TestShortRowsThereAndBack(t *testing.T) {
	for _, k := range kinds {
		for x := range 256 {
			wantPair(t, k, []byte{byte(x)})
			for y := range 256 {
				wantPair(t, k, []byte{byte(x), byte(y)})
			}
		}
	}
}

// P2.1, P2.2: longer rows, at each length's rest by three.
func TestLongRowsThereAndBack(t *testing.T) {
	draw := rand.New(rand.NewSource(2))
	for _, k := range kinds {
		for length := range 300 {
			b := make([]byte, length)
			draw.Read(b)
			wantPair(t, k, b)
		}
		big := make([]byte, 1<<20+1)
		draw.Read(big)
		wantPair(t, k, big)
	}
}

// P2.1: texts that are no bytes' text of that kind.
func TestRefused(t *testing.T) {
	for i, texts := range [][]string{
		{"6", "666", "6G", "6g", "G6", "6A", "A6", "6F", "66 ", " 66", "0x66", "66\n", "-1", "6/", "6:", "6`", "6\x00", "\xc3\xa9", "66=="},
		{"=", "==", "===", "====", "Z", "Z=", "Z==", "Z===", "Zg", "Zg=", "Zg===", "Zm8", "Zm8==", "Zm9v=", "Zm9v==", "Zm9v===", "Zm9v====",
			"Zh==", "Zi==", "Zk==", "Zo==", "Zm9=", "Zm+=", "Zg==Zg==", "Zm8=Zm9v", "Z=g=", "=Zg=", "Zg=A", "Zm9v\n", "Zm9v\r\n\r\n", "\nZg==",
			" Zg==", "Zm 9", "-_8=", "Zm-v", "Zm_v", "Zm9v\x00\x00\x00\x00", "Zm9\xff", "Zm9vYmFyZg"},
		{"=", "Z", "Zg=", "Zg==", "Zm8=", "Z===", "Zh", "Zi", "Zk", "Zo", "Zm9", "Zm-", "Zm9vY", "Zm9vYh", "+/8", "Zm+v", "Zm/v", "Zm9v\n", "Zg\n", " Zg", "Zm9\xff"},
	} {
		for _, s := range texts {
			wantRefused(t, kinds[i], s)
		}
	}
}

// P2.1: a sign that is none is found wherever it stands.
func TestWrongSignAnywhere(t *testing.T) {
	for _, k := range kinds {
		good := k.write([]byte("twelve bytes"))
		for at := range len(good) {
			for _, wrong := range []string{"=", "\x00", "\xff", ".", "\n", "!", "~", "@", "["} {
				if wrong == "=" && at == len(good)-1 {
					continue
				}
				wantRefused(t, k, good[:at]+wrong+good[at+1:])
			}
		}
	}
}

// P2.2: of all texts of two bytes, just those are read that are the text of bytes.
func TestAllTextsOfTwo(t *testing.T) {
	for i, want := range []int{256, 0, 256} {
		k, read := kinds[i], 0
		for x := range 256 {
			for y := range 256 {
				if wantOneText(t, k, string([]byte{byte(x), byte(y)})) {
					read++
				}
			}
		}
		if read != want {
			t.Errorf("%s: %d texts of two bytes are read: want %d", k.name, read, want)
		}
	}
}

// P2.2: of each last sign's low bits just one choice is read, with = and without.
func TestLowBitsOfTheLastSign(t *testing.T) {
	const signs = "ABCDEFGHIJKLMNOPQRSTUVWXYZabcdefghijklmnopqrstuvwxyz0123456789"
	for i, tails := range [][2]string{{"==", "="}, {"", ""}} {
		k := kinds[i+1]
		two, three := 0, 0
		for _, last := range strings.Split(signs, "") {
			if wantOneText(t, k, "Z"+last+tails[0]) {
				two++
			}
			if wantOneText(t, k, "Zm"+last+tails[1]) {
				three++
			}
			if !wantOneText(t, k, "Zm9"+last) {
				t.Errorf("%s: Zm9%s is refused", k.name, last)
			}
		}
		if two != 4 || three != 16 {
			t.Errorf("%s: %d and %d last signs are read: want 4 and 16", k.name, two, three)
		}
	}
}

// P2.2: each text of up to six signs out of a few is refused, or is its bytes' own text.
func TestEachTextIsOneRow(t *testing.T) {
	for i, signs := range []string{"09afgA=", "AQgw/=-", "AQgw_=+"} {
		k := kinds[i]
		texts := []string{""}
		for range 6 {
			longer := []string{}
			for _, s := range texts {
				for _, sign := range strings.Split(signs, "") {
					wantOneText(t, k, s+sign)
					longer = append(longer, s+sign)
				}
			}
			texts = longer
		}
	}
}

// P2.1, rule 5: what is handed in stays as it was, with its spare room, and isn't kept.
func TestArgumentsStay(t *testing.T) {
	for _, k := range kinds {
		room := []byte("abcdefgh\x01\x02\x03\x04")
		before := bytes.Clone(room)
		text := k.write(room[:8])
		if !bytes.Equal(room, before) {
			t.Errorf("%s: %v: want %v", k.name, room, before)
		}
		room[0] = 'X'
		if want := k.truth([]byte("abcdefgh")); text != want {
			t.Errorf("%s: %q after a change: want %q", k.name, text, want)
		}
	}
}

// P2.1, rule 5: two answers share no memory.
func TestAnswersAreNew(t *testing.T) {
	for _, k := range kinds {
		text := k.truth([]byte("abcdefgh"))
		first, _ := k.read(text)
		second, err := k.read(text)
		if err != nil || len(first) != 8 {
			t.Fatalf("%s of %q: %v, %v", k.name, text, first, err)
		}
		for i := range first {
			first[i] = 0
		}
		if string(second) != "abcdefgh" {
			t.Errorf("%s: %q: want what was read", k.name, second)
		}
	}
}
