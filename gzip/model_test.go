package gzip_test

import (
	"bytes"
	"hash/crc32"
	"math/rand"
	"slices"
	"testing"

	"crossdock/api"
	"crossdock/deflate"
	"crossdock/inflate"
)

// member is what a member tells. Its bytes are written with the library's sum.
type member struct {
	flags  byte
	untold [6]byte
	extra  []byte
	name   string
	remark string
	text   string
	mode   int
}

// head is the member's bytes up to the packed ones.
func (m member) head() []byte {
	b := append([]byte{31, 139, 8, m.flags}, m.untold[:]...)
	if m.flags&4 != 0 {
		b = append(b, byte(len(m.extra)), byte(len(m.extra)>>8))
		b = append(b, m.extra...)
	}
	if m.flags&8 != 0 {
		b = append(b, m.name+"\x00"...)
	}
	if m.flags&16 != 0 {
		b = append(b, m.remark+"\x00"...)
	}
	if m.flags&2 != 0 {
		sum := crc32.ChecksumIEEE(b)
		b = append(b, byte(sum), byte(sum>>8))
	}
	return b
}

// packed is the member's packed bytes.
func (m member) packed(t *testing.T) []byte {
	t.Helper()
	b, err := deflate.Deflate([]byte(m.text), m.mode)
	if err != nil {
		t.Fatal(err)
	}
	return b
}

// bytes is the member whole.
func (m member) bytes(t *testing.T) []byte {
	t.Helper()
	return slices.Concat(m.head(), m.packed(t), tail(m.text))
}

// steps is how many steps layer 8 tells of the member.
func (m member) steps(t *testing.T) int {
	t.Helper()
	r, err := inflate.Inflate(m.packed(t), len(m.text))
	if err != nil {
		t.Fatal(err)
	}
	return r.Steps
}

// tail is the sum of a text, and how many bytes it has.
func tail(text string) []byte {
	return append(four(crc32.ChecksumIEEE([]byte(text))), four(uint32(len(text)))...)
}

// four is a number's four bytes.
func four(x uint32) []byte {
	return []byte{byte(x), byte(x >> 8), byte(x >> 16), byte(x >> 24)}
}

// drawnMember is any member, of a text of at most so many bytes.
func drawnMember(draw *rand.Rand, most int) member {
	m := member{flags: byte(draw.Intn(32)), mode: draw.Intn(3)}
	draw.Read(m.untold[:])
	m.extra = make([]byte, draw.Intn(6))
	draw.Read(m.extra)
	m.name = drawnName(draw)
	m.remark = drawnName(draw)
	m.text = drawnText(draw, draw.Intn(most+1), 1+draw.Intn(256))
	return m
}

// drawnName is any text without a byte 0.
func drawnName(draw *rand.Rand) string {
	b := make([]byte, draw.Intn(5))
	for i := range b {
		b[i] = byte(1 + draw.Intn(255))
	}
	return string(b)
}

// drawnText is a text of so many bytes, of which so many are unlike.
func drawnText(draw *rand.Rand, size, unlike int) string {
	b := make([]byte, size)
	for i := range b {
		b[i] = byte(draw.Intn(unlike))
	}
	return string(b)
}

// modelFile is a file's text and steps as the chapter tells it: what is left is cut off piece by piece, and layer 8 is handed all of it.
func modelFile(left []byte, limit int) (text []byte, steps int, err error) {
	if limit < 0 || limit > 1<<20 {
		return nil, 0, api.ErrRange
	}
	for {
		more, n, rest, err := modelMember(left, limit-len(text))
		if err != nil {
			return nil, 0, err
		}
		text, steps, left = append(text, more...), steps+n, rest
		if len(left) == 0 {
			return text, steps, nil
		}
	}
}

// modelMember is a member's text and steps, and what is behind the member.
func modelMember(whole []byte, limit int) (text []byte, steps int, rest []byte, err error) {
	left, err := modelHead(whole)
	if err != nil {
		return nil, 0, nil, err
	}
	r, err := inflate.Inflate(left, limit)
	if err != nil {
		return nil, 0, nil, err
	}
	left = left[r.Used:]
	want := tail(string(r.Text))
	switch {
	case len(left) < 4:
		return nil, 0, nil, api.ErrEnd
	case !bytes.Equal(left[:4], want[:4]):
		return nil, 0, nil, api.ErrSum
	case len(left) < 8:
		return nil, 0, nil, api.ErrEnd
	case !bytes.Equal(left[:8], want):
		return nil, 0, nil, api.ErrSize
	}
	return r.Text, r.Steps, left[8:], nil
}

// modelHead is what is behind a member's head.
func modelHead(whole []byte) ([]byte, error) {
	if len(whole) < 3 {
		return nil, api.ErrEnd
	}
	if whole[0] != 31 || whole[1] != 139 || whole[2] != 8 {
		return nil, api.ErrKind
	}
	if len(whole) == 3 {
		return nil, api.ErrEnd
	}
	flags := whole[3]
	if flags > 31 {
		return nil, api.ErrForm
	}
	size := 10
	if flags&4 != 0 && size+2 <= len(whole) {
		size += int(whole[size]) + 256*int(whole[size+1])
	}
	if flags&4 != 0 {
		size += 2
	}
	for _, flag := range []byte{8, 16} {
		if flags&flag == 0 {
			continue
		}
		for size < len(whole) && whole[size] != 0 {
			size++
		}
		size++
	}
	if size > len(whole) || flags&2 != 0 && size+2 > len(whole) {
		return nil, api.ErrEnd
	}
	left := whole[size:]
	if flags&2 == 0 {
		return left, nil
	}
	if half := crc32.ChecksumIEEE(whole[:size]) % 65536; half != uint32(left[0])+256*uint32(left[1]) {
		return nil, api.ErrSum
	}
	return left[2:], nil
}
