package gzip

import (
	"bytes"

	"crossdock/api"
	"crossdock/crc"
	"crossdock/guard"
	"crossdock/inflate"
)

// The flags of a member.
const (
	flagText   = 1 << iota // a hint at what was packed; it changes nothing
	flagSum                // half a sum stands behind the head
	flagExtra              // bytes stand there, as many as two more tell
	flagName               // a name
	flagRemark             // a remark
	flagUnset              // this one and those above it aren't set
)

const (
	// untold is how many bytes behind the flags tell nothing here: the time, how it was packed, the system.
	untold = 6
	// firstPiece and growth tell how many bytes of a file are unpacked at first, and how many times as many if these end too early.
	firstPiece = 256
	growth     = 16
)

// file is read member by member. Its methods throw what they find wrong.
type file struct {
	b     []byte
	at    int
	text  []byte
	limit int
	steps int
}

// read reads a whole file.
func read(b []byte, limit int) (file, error) {
	if limit < 0 || limit > api.MaxBytes {
		return file{}, api.ErrRange
	}
	f := file{b: b, limit: limit}
	if err := guard.Try(f.members); err != nil {
		return file{}, guard.Code(err)
	}
	return f, nil
}

// members reads members up to the file's end; there must be one.
func (f *file) members() {
	f.member()
	for f.at < len(f.b) {
		f.member()
	}
}

// member reads a member.
func (f *file) member() {
	f.head()
	r := f.packed()
	guard.Must(f.number(4) == crc.Of(r.Text), api.ErrSum, "")
	guard.Must(f.number(4) == uint32(len(r.Text)), api.ErrSize, "")
	f.text = append(f.text, r.Text...)
	f.steps += r.Steps
}

// head reads what stands ahead of a member's packed bytes.
func (f *file) head() {
	start := f.at
	guard.Must(Is(f.take(len(begin))), api.ErrKind, "")
	flags := f.number(1)
	guard.Must(flags < flagUnset, api.ErrForm, "")
	f.take(untold)
	if flags&flagExtra != 0 {
		f.take(int(f.number(2)))
	}
	if flags&flagName != 0 {
		f.name()
	}
	if flags&flagRemark != 0 {
		f.name()
	}
	if flags&flagSum != 0 {
		half := crc.Of(f.b[start:f.at]) & 0xffff
		guard.Must(f.number(2) == half, api.ErrSum, "")
	}
}

// name passes over what goes up to a byte 0.
func (f *file) name() {
	end := bytes.IndexByte(f.b[f.at:], 0)
	guard.Must(end >= 0, api.ErrEnd, "")
	f.at += end + 1
}

// packed unpacks what is next.
// It does so of a piece first, and of a greater one if that ends too early: the layer below copies what it is handed, and the rest of the file behind each of many short members would be copied as often as there are members.
func (f *file) packed() inflate.Result {
	rest := f.b[f.at:]
	for size := firstPiece; ; size *= growth {
		piece := rest[:min(size, len(rest))]
		r, err := inflate.Inflate(piece, f.limit-len(f.text))
		if guard.Code(err) == api.ErrEnd && len(piece) < len(rest) {
			continue
		}
		guard.Pass(err)
		f.at += r.Used
		return r
	}
}

// number is the next n bytes as a number, the low one first.
func (f *file) number(n int) uint32 {
	var x uint32
	for i, low := range f.take(n) {
		x |= uint32(low) << (8 * i)
	}
	return x
}

// take is the next n bytes.
func (f *file) take(n int) []byte {
	guard.Must(n <= len(f.b)-f.at, api.ErrEnd, "")
	b := f.b[f.at : f.at+n]
	f.at += n
	return b
}
