package deflate

import "crossdock/api"

const (
	minLength   = 3
	maxLength   = 258
	maxDistance = 32768
	maxPlaces   = 64 // how many places are asked for a match
)

// noPlace stands where there is no place.
const noPlace = -1

// Token is a byte, or a match.
type Token struct {
	Byte             byte
	Length, Distance int
}

// Tokens is a text's tokens.
func Tokens(text []byte) []Token {
	var list []Token
	alike := placesAlike(text)
	for at := 0; at < len(text); {
		token := tokenAt(text, alike, at)
		list = append(list, token)
		at += token.size()
	}
	return list
}

// Untokens is the bytes of tokens.
func Untokens(list []Token) ([]byte, error) {
	var text []byte
	for _, token := range list {
		if err := token.refusal(len(text)); err != nil {
			return nil, err
		}
		if token.Length == 0 {
			text = append(text, token.Byte)
		}
		// Byte by byte: a match may be longer than its distance, and then repeats what it put out itself.
		for range token.Length {
			text = append(text, text[len(text)-token.Distance])
		}
	}
	return text, nil
}

// placesAlike is, for each place of a text, the nearest one ahead of it that has the same three bytes.
func placesAlike(text []byte) []int {
	alike := make([]int, len(text))
	newest := map[uint32]int{}
	for at := range text {
		alike[at] = noPlace
		if len(text)-at < minLength {
			continue
		}
		three := uint32(text[at]) | uint32(text[at+1])<<8 | uint32(text[at+2])<<16
		if place, ok := newest[three]; ok {
			alike[at] = place
		}
		newest[three] = at
	}
	return alike
}

// tokenAt is the token that begins at a place.
func tokenAt(text []byte, alike []int, at int) Token {
	most := min(maxLength, len(text)-at)
	longest := Token{}
	place := at
	for range maxPlaces {
		place = alike[place]
		if place == noPlace || at-place > maxDistance || longest.Length == most {
			break
		}
		// Only a longer one counts: the places come from the nearest one on.
		if length := matched(text, place, at, most); length > longest.Length {
			longest = Token{Length: length, Distance: at - place}
		}
	}
	if longest.Length == 0 {
		return Token{Byte: text[at]}
	}
	return longest
}

// matched is how many bytes, of so many at most, are the same from two places on.
func matched(text []byte, place, at, most int) int {
	n := 0
	for n < most && text[place+n] == text[at+n] {
		n++
	}
	return n
}

// size is how many bytes a token puts out.
func (t Token) size() int {
	return max(1, t.Length)
}

// refusal is why a token can't stand behind so many bytes, or nil.
func (t Token) refusal(ahead int) error {
	switch {
	case !t.isFormed():
		return api.ErrForm
	case t.Length > 0 && (t.Distance < 1 || t.Distance > min(maxDistance, ahead)):
		return api.ErrRange
	case t.size() > api.MaxBytes-ahead:
		return api.ErrLong
	}
	return nil
}

// isFormed tells whether a token is a byte alone, or a match alone, wherever that goes back to.
func (t Token) isFormed() bool {
	if t.Length == 0 {
		return t.Distance == 0
	}
	return t.Length >= minLength && t.Length <= maxLength && t.Distance != 0 && t.Byte == 0
}
