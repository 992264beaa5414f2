package deflate_test

import (
	"bytes"
	"math"
	"math/rand"
	"slices"
	"strings"
	"testing"

	"crossdock/api"
	"crossdock/deflate"
)

// match is a token of a match.
func match(length, distance int) deflate.Token {
	return deflate.Token{Length: length, Distance: distance}
}

// letters is a token for each byte.
func letters(text string) []deflate.Token {
	var list []deflate.Token
	for i := range len(text) {
		list = append(list, deflate.Token{Byte: text[i]})
	}
	return list
}

// row puts lists and tokens behind one another.
func row(parts ...any) []deflate.Token {
	var list []deflate.Token
	for _, part := range parts {
		switch x := part.(type) {
		case string:
			list = append(list, letters(x)...)
		case deflate.Token:
			list = append(list, x)
		}
	}
	return list
}

// short is the beginning of a long text.
func short(text string) string {
	return text[:min(len(text), 40)]
}

// tokensAre asks for a text's tokens, and for the text of these.
func tokensAre(t *testing.T, text string, want []deflate.Token) {
	t.Helper()
	list := deflate.Tokens([]byte(text))
	if !slices.Equal(list, want) {
		t.Errorf("%q, %d bytes: %d tokens: want %d", short(text), len(text), len(list), len(want))
		for i := range min(len(list), len(want)) {
			if list[i] != want[i] {
				t.Fatalf("token %d: %v: want %v", i, list[i], want[i])
			}
		}
	}
	bytesAre(t, want, text)
}

// bytesAre asks for the text of tokens.
func bytesAre(t *testing.T, list []deflate.Token, want string) {
	t.Helper()
	if b, err := deflate.Untokens(list); err != nil || string(b) != want {
		t.Errorf("%d tokens: %q, %d bytes, %v: want %q, %d bytes", len(list), short(string(b)), len(b), err, short(want), len(want))
	}
}

// endsWith asks for a text's last tokens.
func endsWith(t *testing.T, text string, want []deflate.Token) {
	t.Helper()
	list := deflate.Tokens([]byte(text))
	if len(list) < len(want) || !slices.Equal(list[len(list)-len(want):], want) {
		t.Errorf("%q, %d bytes: %v: want %v at the end", short(text), len(text), list[max(0, len(list)-6):], want)
	}
	bytesAre(t, list, text)
}

// refused asks for an error of tokens, beside which there must be nothing.
func refused(t *testing.T, name string, list []deflate.Token, want api.Errno) {
	t.Helper()
	if b, err := deflate.Untokens(list); err != want || len(b) != 0 {
		t.Errorf("%s: %d bytes, %v: want %v", name, len(b), err, want)
	}
}

func TestExample(t *testing.T) {
	tokensAre(t, "aaaa", row("a", match(3, 1)))
}

func TestFewBytes(t *testing.T) {
	if list := deflate.Tokens(nil); len(list) != 0 {
		t.Error(list)
	}
	for _, text := range []string{"", "a", "ab", "aa", "abc", "aaa", "abca", "abcab", "\x00", "\x00\x00", "\x00\x00\x00", "\xff\xff\xff"} {
		tokensAre(t, text, row(text))
	}
}

func TestMatches(t *testing.T) {
	for _, c := range []struct {
		text string
		want []deflate.Token
	}{
		{"abcabc", row("abc", match(3, 3))},
		{"abcxabc", row("abcx", match(3, 4))},
		{"abcxabcy", row("abcx", match(3, 4), "y")},
		{"abxabyab", row("abxabyab")},
		{"abcdxabcd", row("abcdx", match(4, 5))},
		{"abcabcabcab", row("abc", match(8, 3))},
		{"abcabcabcabd", row("abc", match(8, 3), "d")},
		{"aaaaa", row("a", match(4, 1))},
		{"\x00\x00\x00\x00", row("\x00", match(3, 1))},
		{"ababab", row("ab", match(4, 2))},
		// A match is taken where it is found, though one byte later there is a longer one.
		{"abc-bcdef-abcdef", row("abc-bcdef-", match(3, 10), match(3, 7))},
		// The same signs in another order are other ones.
		{"abc1acb2bac3bca4cab5cba", row("abc1acb2bac3bca4cab5cba")},
		{"\x00\x01\x00\x00\x02\x00\x01\x01\x00\x02", row("\x00\x01\x00\x00\x02\x00\x01\x01\x00\x02")},
	} {
		tokensAre(t, c.text, c.want)
	}
}

// TestLongest asks that the longest match counts, and of equal ones the nearest.
func TestLongest(t *testing.T) {
	for _, c := range []struct {
		text string
		want []deflate.Token
	}{
		{"abcxabcyabcz", row("abcx", match(3, 4), "y", match(3, 4), "z")},
		{"abcdxabcy!abcdz", row("abcdx", match(3, 5), "y!", match(4, 10), "z")},
		{"abcxabcdy!abcdz", row("abcx", match(3, 4), "dy!", match(4, 6), "z")},
		{"abcdxabcdy!abcdz", row("abcdx", match(4, 5), "y!", match(4, 6), "z")},
		{"abcdeabcabcde", row("abcde", match(3, 5), match(5, 8))},
		// Both reach the text's end, and would go on unlike behind it.
		{"abcdeabcabcd", row("abcde", match(3, 5), match(4, 8))},
		{"abcdeabcdabcd", row("abcde", match(4, 5), match(4, 4))},
	} {
		tokensAre(t, c.text, c.want)
	}
}

// TestLengths has matches of each length: over what they put out themselves, and of what is whole ahead of them.
func TestLengths(t *testing.T) {
	for n := 3; n <= 258; n++ {
		tokensAre(t, strings.Repeat("q", n+1), row("q", match(n, 1)))
		tokensAre(t, strings.Repeat("q", n+1)+"r", row("q", match(n, 1), "r"))
		piece := unlike(n)
		tokensAre(t, piece+"!!"+piece, row(piece+"!!", match(n, n+2)))
		tokensAre(t, piece+"!!"+piece+"?", row(piece+"!!", match(n, n+2), "?"))
	}
}

// unlike is so many bytes, at most 258, of which no three come twice; neither ! nor ? is among them.
func unlike(n int) string {
	var text []byte
	for i := range 129 {
		text = append(text, byte(128+i%128), byte(64+i/2))
	}
	return string(text[:n])
}

func TestLongerThanAMatch(t *testing.T) {
	for more, want := range [][]deflate.Token{
		row("q", match(258, 1)),
		row("q", match(258, 1), "q"),
		row("q", match(258, 1), "qq"),
		row("q", match(258, 1), match(3, 1)),
		row("q", match(258, 1), match(4, 1)),
	} {
		tokensAre(t, strings.Repeat("q", 259+more), want)
	}
	tokensAre(t, strings.Repeat("q", 1+3*258), row("q", match(258, 1), match(258, 1), match(258, 1)))

	text := string(noise(600))
	want := row(text, match(258, 600), match(258, 600), match(84, 600))
	tokensAre(t, text+text, want)
	tokensAre(t, text+text+"!", append(want, deflate.Token{Byte: '!'}))

	// Of two that have 258 bytes and more, the nearest one counts, though the other one goes on longer.
	text = text[:300]
	endsWith(t, text+text[:258]+"!"+text[:259], row(match(258, 259), deflate.Token{Byte: text[258]}))
}

// TestPlaces asks that 64 places are asked, and no more.
func TestPlaces(t *testing.T) {
	for _, c := range []struct {
		places int
		want   []deflate.Token
	}{
		{1, row(match(4, 9))},
		{62, row(match(4, 4+62*4+1))},
		{63, row(match(4, 4+63*4+1))},
		{64, row(match(3, 5), "d")},
		{65, row(match(3, 5), "d")},
		{200, row(match(3, 5), "d")},
	} {
		// The places lie within matches themselves, and count all the same.
		endsWith(t, "abcd"+strings.Repeat("abcx", c.places)+"!abcd", c.want)
	}
	for _, c := range []struct {
		run  int
		want []deflate.Token
	}{
		{3, row(match(4, 9))},
		{64, row(match(4, 70))},
		{65, row(match(4, 71))},
		{66, row(match(3, 4), "b")},
		{67, row(match(3, 4), "b")},
	} {
		// A run has a place wherever three bytes of it begin.
		endsWith(t, "aaab-"+strings.Repeat("a", c.run)+"!aaab", c.want)
	}
	// The 64 places have nothing to do with those that have other three bytes.
	endsWith(t, "abcd"+strings.Repeat("abx", 300)+"!abcd", row(match(4, 905)))
}

// TestFarPlaces asks that a place may be 32768 back, and no farther.
func TestFarPlaces(t *testing.T) {
	gap := func(n int) string { return strings.Repeat("-", n) }
	for _, c := range []struct {
		text string
		want []deflate.Token
	}{
		{"abc" + gap(32763) + "!abc", row("!", match(3, 32767))},
		{"abc" + gap(32764) + "!abc", row("!", match(3, 32768))},
		{"abc" + gap(32765) + "!abc", row("!abc")},
		{"abc" + gap(32766) + "!abc", row("!abc")},
		{"abc" + gap(65532) + "!abc", row("!abc")},
		{"abc" + gap(65533) + "!abc", row("!abc")},
		// The longer one is too far, the shorter one isn't.
		{"abcd" + gap(20000) + "abc" + gap(12760) + "!abcd", row("!", match(4, 32768))},
		{"abcd" + gap(20000) + "abc" + gap(12761) + "!abcd", row("!", match(3, 12765), "d")},
		// The match begins at a place that isn't too far: where its end is doesn't count.
		{"abcdef" + gap(32761) + "!abcdef", row("!", match(6, 32768))},
		{"abcdef" + gap(32762) + "!abcdef", row("!abcdef")},
	} {
		endsWith(t, c.text, c.want)
	}
}

func TestUntokens(t *testing.T) {
	bytesAre(t, nil, "")
	bytesAre(t, []deflate.Token{}, "")
	bytesAre(t, []deflate.Token{{}}, "\x00")
	bytesAre(t, row("\x00a\xff"), "\x00a\xff")
	bytesAre(t, row("a", match(3, 1)), "aaaa")
	bytesAre(t, row("a", match(258, 1)), strings.Repeat("a", 259))
	bytesAre(t, row("ab", match(3, 2)), "ababa")
	bytesAre(t, row("ab", match(3, 1)), "abbbb")
	bytesAre(t, row("abcd", match(3, 4)), "abcdabc")
	bytesAre(t, row("abcd", match(3, 4), match(7, 7)), "abcdabcabcdabc")
	// Tokens that no text has are tokens all the same.
	bytesAre(t, row("abcabc"), "abcabc")
	bytesAre(t, row("abcabc", match(3, 6), match(3, 9)), "abcabcabcabc")

	back := string(noise(32768))
	bytesAre(t, row(back, match(3, 32768)), back+back[:3])
	bytesAre(t, row(back, "!", match(258, 32768)), back+"!"+back[1:259])
	refused(t, "one byte short", row(back[1:], match(3, 32768)), api.ErrRange)
	refused(t, "too far", row(back, match(3, 32769)), api.ErrRange)
	refused(t, "too far", row(back, "!", match(3, 32769)), api.ErrRange)
}

// TestWrongTokens asks for each error, of a token that stands behind bytes that would do.
func TestWrongTokens(t *testing.T) {
	for _, c := range []struct {
		name  string
		token deflate.Token
		want  api.Errno
	}{
		{"length 1", match(1, 1), api.ErrForm},
		{"length 2", match(2, 1), api.ErrForm},
		{"length 259", match(259, 1), api.ErrForm},
		{"length -1", match(-1, 1), api.ErrForm},
		{"length -3", match(-3, 1), api.ErrForm},
		{"length -258", match(-258, 1), api.ErrForm},
		{"least length", match(math.MinInt, 1), api.ErrForm},
		{"most length", match(math.MaxInt, 1), api.ErrForm},
		{"length of 33 bits", match(1<<32+3, 1), api.ErrForm},
		{"length alone", match(3, 0), api.ErrForm},
		{"wrong length alone", match(2, 0), api.ErrForm},
		{"distance alone", match(0, 1), api.ErrForm},
		{"far distance alone", match(0, 40000), api.ErrForm},
		{"distance -1 alone", match(0, -1), api.ErrForm},
		{"byte with a distance", deflate.Token{Byte: 1, Distance: 1}, api.ErrForm},
		{"byte with a length", deflate.Token{Byte: 1, Length: 3}, api.ErrForm},
		{"match with a byte", deflate.Token{Byte: 1, Length: 3, Distance: 1}, api.ErrForm},
		{"match with a byte 255", deflate.Token{Byte: 255, Length: 258, Distance: 4}, api.ErrForm},
		{"distance -1", match(3, -1), api.ErrRange},
		{"distance -32768", match(3, -32768), api.ErrRange},
		{"least distance", match(3, math.MinInt), api.ErrRange},
		{"most distance", match(3, math.MaxInt), api.ErrRange},
		{"distance of 33 bits", match(3, 1<<32+1), api.ErrRange},
		{"distance 5 of 4", match(3, 5), api.ErrRange},
		{"distance 32768 of 4", match(258, 32768), api.ErrRange},
		{"distance 32769 of 4", match(258, 32769), api.ErrRange},
		// Of two that are wrong with one token, the form is told.
		{"length 2, distance 5 of 4", match(2, 5), api.ErrForm},
		{"length 259, distance 32769", match(259, 32769), api.ErrForm},
		{"length 2, distance -1", match(2, -1), api.ErrForm},
		{"match with a byte, distance -1", deflate.Token{Byte: 7, Length: 3, Distance: -1}, api.ErrForm},
		{"match with a byte, too far", deflate.Token{Byte: 7, Length: 3, Distance: 32769}, api.ErrForm},
	} {
		refused(t, c.name, row("abcd", c.token), c.want)
		refused(t, c.name+", others behind", row("abcd", c.token, "efg", match(3, 3)), c.want)
	}
	refused(t, "a match first", row(match(3, 1)), api.ErrRange)
	refused(t, "a match of 2 first", row(match(2, 1)), api.ErrForm)
}

// TestFirstWrongToken asks that of two wrong tokens the first one is told.
func TestFirstWrongToken(t *testing.T) {
	full := slices.Repeat(row("a"), 1<<20)
	refused(t, "range, form", row("a", match(3, 2), match(2, 1)), api.ErrRange)
	refused(t, "form, range", row("a", match(2, 1), match(3, 2)), api.ErrForm)
	refused(t, "long, form", append(slices.Clone(full), row("a", match(2, 1))...), api.ErrLong)
	refused(t, "long, range", append(slices.Clone(full), row("a", match(3, 32769))...), api.ErrLong)
	refused(t, "range, long", append(row(match(3, 1)), append(slices.Clone(full), row("a")...)...), api.ErrRange)
	refused(t, "form, long", append(row(match(0, 1)), append(slices.Clone(full), row("a")...)...), api.ErrForm)
}

// TestMostBytes puts out 2^20 bytes, and one more, by bytes and by matches.
func TestMostBytes(t *testing.T) {
	const most = 1 << 20
	bytesOnly := slices.Repeat(row("a"), most)
	bytesAre(t, bytesOnly, strings.Repeat("a", most))
	for _, c := range []struct {
		name  string
		token deflate.Token
		want  api.Errno
	}{
		{"a byte", deflate.Token{Byte: 'a'}, api.ErrLong},
		{"a byte 0", deflate.Token{}, api.ErrLong},
		{"a match", match(3, 1), api.ErrLong},
		{"a long match", match(258, 32768), api.ErrLong},
		{"a match too far", match(3, 32769), api.ErrRange},
		{"a match of 2", match(2, 1), api.ErrForm},
		{"a distance", match(0, 1), api.ErrForm},
	} {
		refused(t, c.name+" more", append(slices.Clone(bytesOnly), c.token), c.want)
	}
	for n := 3; n <= 258; n += 51 {
		bytesAre(t, append(slices.Clone(bytesOnly[n:]), match(n, 1)), strings.Repeat("a", most))
		refused(t, "one more", append(slices.Clone(bytesOnly[n-1:]), match(n, 1)), api.ErrLong)
		refused(t, "as many more", append(slices.Clone(bytesOnly), match(n, 1)), api.ErrLong)
	}
}

// TestTokensOfMore asks for the tokens of a text that is longer than what may be packed.
func TestTokensOfMore(t *testing.T) {
	for _, size := range []int{1<<20 - 1, 1 << 20, 1<<20 + 1} {
		list := deflate.Tokens(make([]byte, size))
		want := row("\x00")
		for left := size - 1; left > 0; left -= 258 {
			if left < 3 {
				want = append(want, make([]deflate.Token, left)...)
				break
			}
			want = append(want, match(min(left, 258), 1))
		}
		if !slices.Equal(list, want) {
			t.Error(size, len(list), len(want))
		}
		if size > 1<<20 {
			refused(t, "more", list, api.ErrLong)
		} else {
			bytesAre(t, list, strings.Repeat("\x00", size))
		}
	}
}

// TestModel holds drawn texts' tokens against those that are looked for place by place.
func TestModel(t *testing.T) {
	draw := rand.New(rand.NewSource(9))
	for range 3000 {
		text := drawnText(draw, draw.Intn(300), 1+draw.Intn(5))
		tokensAre(t, string(text), modelTokens(text))
	}
	for _, unlike := range []int{1, 2, 3, 4, 7, 20, 100, 256} {
		text := drawnText(draw, 4000, unlike)
		tokensAre(t, string(text), modelTokens(text))
	}
	for _, unlike := range []int{2, 6, 30} {
		text := drawnText(draw, 70000, unlike)
		tokensAre(t, string(text), modelTokens(text))
	}
}

// TestAllTexts has each text of up to 11 signs of two kinds.
func TestAllTexts(t *testing.T) {
	for size := range 12 {
		for x := range 1 << size {
			text := make([]byte, size)
			for i := range text {
				text[i] = byte(x >> i & 1)
			}
			tokensAre(t, string(text), modelTokens(text))
		}
	}
}

// TestTokensNeitherChangedNorKept scrawls over what was handed in, and over what was answered.
func TestTokensNeitherChangedNorKept(t *testing.T) {
	room := []byte("abcabcabc, and room behind")
	list := deflate.Tokens(room[:9])
	if string(room) != "abcabcabc, and room behind" {
		t.Errorf("changed: %q", room)
	}
	want := row("abc", match(6, 3))
	for i := range room {
		room[i] = '!'
	}
	if !slices.Equal(list, want) {
		t.Error("kept:", list)
	}

	spare := row("abc", match(6, 3), "more")
	b, err := deflate.Untokens(spare[:4])
	if !slices.Equal(spare, row("abc", match(6, 3), "more")) {
		t.Error("changed:", spare)
	}
	for i := range spare {
		spare[i] = deflate.Token{}
	}
	if err != nil || !bytes.Equal(b, []byte("abcabcabc")) {
		t.Errorf("kept: %q, %v", b, err)
	}
	for i := range b {
		b[i] = '!'
	}
	bytesAre(t, want, "abcabcabc")
}
