package gzip_test

import (
	"bytes"
	gz "compress/gzip"
	"io"
	"math"
	"math/rand"
	"slices"
	"strings"
	"testing"

	"crossdock/api"
	"crossdock/deflate"
	"crossdock/gzip"
)

// packed asks for a text as a member, which there must be.
func packed(t *testing.T, text string, mode int) []byte {
	t.Helper()
	b, err := gzip.Pack([]byte(text), mode)
	if err != nil {
		t.Fatalf("%d bytes, mode %d: %v", len(text), mode, err)
	}
	return b
}

// answered asks for a file's text and steps, which there must be.
func answered(t *testing.T, name string, b []byte, limit int, text string, steps int) {
	t.Helper()
	x, err := gzip.Unpack(b, limit)
	if err != nil || string(x) != text {
		t.Errorf("%s, limit %d: %d bytes, %v: want %d bytes", name, limit, len(x), err, len(text))
	}
	n, err := gzip.Steps(b, limit)
	if err != nil || n != steps {
		t.Errorf("%s, limit %d: %d steps, %v: want %d steps", name, limit, n, err, steps)
	}
}

// refused asks for an error of both calls, beside which there must be nothing.
func refused(t *testing.T, name string, b []byte, limit int, want error) {
	t.Helper()
	x, err := gzip.Unpack(b, limit)
	if err != want || len(x) != 0 {
		t.Errorf("%s, limit %d: %d bytes, %v: want %v", name, limit, len(x), err, want)
	}
	n, err := gzip.Steps(b, limit)
	if err != want || n != 0 {
		t.Errorf("%s, limit %d: %d steps, %v: want %v", name, limit, n, err, want)
	}
}

// asModel asks for what the model answers, whatever it is.
func asModel(t *testing.T, name string, b []byte, limit int) {
	t.Helper()
	text, steps, err := modelFile(b, limit)
	if err != nil {
		refused(t, name, b, limit, err)
		return
	}
	answered(t, name, b, limit, string(text), steps)
}

// libraryText is what the library reads, all members of it.
func libraryText(t *testing.T, b []byte) string {
	t.Helper()
	r, err := gz.NewReader(bytes.NewReader(b))
	if err != nil {
		t.Fatal(err)
	}
	x, err := io.ReadAll(r)
	if err != nil {
		t.Fatal(err)
	}
	return string(x)
}

// noise is so many bytes that can't be packed.
func noise(size int) string {
	return drawnText(rand.New(rand.NewSource(int64(size))), size, 256)
}

// changed is bytes of which one is another one.
func changed(b []byte, at int, x byte) []byte {
	c := slices.Clone(b)
	c[at] = x
	return c
}

// P10.1: the chapter's example, and the same text in the other modes.
func TestExample(t *testing.T) {
	for mode, want := range [][]byte{
		{31, 139, 8, 0, 0, 0, 0, 0, 0, 255, 1, 0, 0, 255, 255, 0, 0, 0, 0, 0, 0, 0, 0},
		{31, 139, 8, 0, 0, 0, 0, 0, 0, 255, 3, 0, 0, 0, 0, 0, 0, 0, 0, 0},
		{31, 139, 8, 0, 0, 0, 0, 0, 0, 255, 3, 0, 0, 0, 0, 0, 0, 0, 0, 0},
	} {
		for _, text := range [][]byte{nil, {}} {
			if b, err := gzip.Pack(text, mode); err != nil || !bytes.Equal(b, want) {
				t.Errorf("mode %d: %v, %v: want %v", mode, b, err, want)
			}
		}
		answered(t, "the empty text", want, 0, "", 1+min(mode, 1))
	}
}

// P10.1: what is packed, byte by byte.
func TestPack(t *testing.T) {
	for _, text := range []string{"", "A", "123456789", strings.Repeat("abc", 100), noise(255), noise(256), noise(65535), noise(65536), strings.Repeat("\x00", 70000)} {
		for mode := range 3 {
			m := member{untold: [6]byte{5: 255}, text: text, mode: mode}
			if b := packed(t, text, mode); !bytes.Equal(b, m.bytes(t)) {
				t.Errorf("%d bytes, mode %d: %d bytes", len(text), mode, len(b))
			}
		}
	}
	want := []byte{31, 139, 8, 0, 0, 0, 0, 0, 0, 255, 1, 9, 0, 246, 255, '1', '2', '3', '4', '5', '6', '7', '8', '9', 0x26, 0x39, 0xf4, 0xcb, 9, 0, 0, 0}
	if b := packed(t, "123456789", 0); !bytes.Equal(b, want) {
		t.Error(b)
	}
}

// P10.1: what layer 9 refuses.
func TestPackRefused(t *testing.T) {
	long := make([]byte, 1<<20+1)
	for _, mode := range []int{-1, 3, 4, 256, 1 << 32, math.MinInt, math.MaxInt} {
		for _, text := range [][]byte{nil, {}, []byte("abc"), long[1:], long} {
			if b, err := gzip.Pack(text, mode); err != api.ErrRange || len(b) != 0 {
				t.Errorf("mode %d of %d bytes: %d bytes, %v", mode, len(text), len(b), err)
			}
		}
	}
	for mode := range 3 {
		if b, err := gzip.Pack(long, mode); err != api.ErrLong || len(b) != 0 {
			t.Errorf("mode %d: %d bytes, %v", mode, len(b), err)
		}
	}
}

// P10.1: the limit is asked ahead of everything else.
func TestLimitRange(t *testing.T) {
	right := packed(t, "abc", 1)
	for _, b := range [][]byte{nil, {}, right, {1, 2, 3}, right[:5], changed(right, 3, 32), changed(right, len(right)-1, 1)} {
		for _, limit := range []int{-1, -2, 1<<20 + 1, 1 << 32, math.MinInt, math.MaxInt} {
			refused(t, "a wrong limit", b, limit, api.ErrRange)
		}
	}
	for _, limit := range []int{3, 4, 1<<20 - 1, 1 << 20} {
		answered(t, "a right limit", right, limit, "abc", 5)
	}
	for _, limit := range []int{0, 1, 2} {
		refused(t, "a small limit", right, limit, api.ErrLong)
	}
}

// P10.1: a file has a member at least.
func TestNoMember(t *testing.T) {
	for _, limit := range []int{0, 1, 1 << 20} {
		refused(t, "nil", nil, limit, api.ErrEnd)
		refused(t, "no bytes", []byte{}, limit, api.ErrEnd)
	}
}

// P10.1: the three bytes are asked as a whole, and ahead of the flags.
func TestBegin(t *testing.T) {
	right := packed(t, "abc", 1)
	for at := range 3 {
		for bit := range 8 {
			b := changed(right, at, right[at]^1<<bit)
			refused(t, "a wrong begin", b, 3, api.ErrKind)
			refused(t, "a wrong begin alone", b[:3], 3, api.ErrKind)
			refused(t, "a wrong begin with wrong flags", changed(b, 3, 224), 3, api.ErrKind)
			refused(t, "a wrong begin that is cut", b[:2], 3, api.ErrEnd)
			refused(t, "a wrong begin that is cut", b[:1], 3, api.ErrEnd)
			refused(t, "a wrong begin behind a member", slices.Concat(right, b), 6, api.ErrKind)
			if gzip.Is(b) || gzip.Is(b[:3]) {
				t.Error("Is", b)
			}
		}
	}
	for _, b := range [][]byte{{139, 31, 8}, {0, 0, 0}, {8, 139, 31}, {0, 31, 139, 8}} {
		refused(t, "a wrong begin", b, 3, api.ErrKind)
		if gzip.Is(b) {
			t.Error("Is", b)
		}
	}
}

// P10.1: whether bytes begin as a member does, whatever is behind.
func TestIs(t *testing.T) {
	for _, b := range [][]byte{{31, 139, 8}, {31, 139, 8, 255}, {31, 139, 8, 0, 0}, packed(t, "abc", 1), append([]byte{31, 139, 8}, noise(1000)...)} {
		if !gzip.Is(b) {
			t.Error(b)
		}
	}
	for _, b := range [][]byte{nil, {}, {31}, {139}, {31, 139}, {31, 8, 139}, {31, 139, 9}, {139, 8}, {31, 31, 139, 8}, make([]byte, 3)} {
		if gzip.Is(b) {
			t.Error(b)
		}
	}
	room := []byte{31, 139, 8}
	if gzip.Is(room[:2]) || gzip.Is(room[:0]) {
		t.Error("room behind")
	}
}

// P10.1: all flags with all that they bring; those that aren't set are asked as soon as they are read.
func TestFlags(t *testing.T) {
	for flags := range 256 {
		m := member{flags: byte(flags), untold: [6]byte{1, 2, 3, 4, 5, 6}, extra: []byte("extra"), name: "name", remark: "remark", text: "text", mode: 1}
		b := m.bytes(t)
		if flags > 31 {
			refused(t, "flags", b, 4, api.ErrForm)
			refused(t, "flags alone", b[:4], 4, api.ErrForm)
			refused(t, "flags, and a limit too small", b, 0, api.ErrForm)
			refused(t, "flags behind a member", slices.Concat(packed(t, "abc", 1), b[:4]), 7, api.ErrForm)
			continue
		}
		answered(t, "flags", b, 4, "text", m.steps(t))
		answered(t, "flags, twice", slices.Concat(b, b), 8, "texttext", 2*m.steps(t))
		for n := range b {
			refused(t, "flags, cut", b[:n], 4, api.ErrEnd)
			if n > 0 {
				refused(t, "flags, cut behind a member", slices.Concat(b, b[:n]), 8, api.ErrEnd)
			}
		}
	}
}

// P10.1: what stands behind the flags tells nothing.
func TestUntold(t *testing.T) {
	b := packed(t, "abc", 1)
	for at := 4; at < 10; at++ {
		for x := range 256 {
			answered(t, "untold", changed(b, at, byte(x)), 3, "abc", 5)
		}
	}
}

// P10.1: the further bytes, as many as two bytes tell.
func TestExtra(t *testing.T) {
	for _, size := range []int{0, 1, 2, 255, 256, 257, 4096, 65534, 65535} {
		m := member{flags: 4, extra: []byte(noise(size)), text: "text", mode: 2}
		b := m.bytes(t)
		answered(t, "extra", b, 4, "text", m.steps(t))
		for _, n := range []int{10, 11, 12 + size/2, 12 + size} {
			refused(t, "extra, cut", b[:n], 4, api.ErrEnd)
		}
		if size > 0 {
			refused(t, "extra, one lacks", b[:11+size], 4, api.ErrEnd)
		}
	}
	// The bytes of three members within the further ones are none.
	m := member{flags: 4, extra: bytes.Repeat(packed(t, "no", 1), 3), text: "text", mode: 2}
	answered(t, "extra of members", m.bytes(t), 4, "text", m.steps(t))
}

// P10.1: a name and a remark go up to a byte 0, whatever they are.
func TestNames(t *testing.T) {
	for _, name := range []string{"", "a", "name", "\xff\xfe", "\x1f\x8b\x08\x01", strings.Repeat("n", 100000)} {
		for _, flags := range []byte{8, 16, 24} {
			m := member{flags: flags, name: name, remark: name, text: "text", mode: 1}
			b := m.bytes(t)
			answered(t, "names", b, 4, "text", m.steps(t))
			m.flags, m.remark = 24, "another one"
			answered(t, "names", m.bytes(t), 4, "text", m.steps(t))
			refused(t, "names without an end", b[:10+len(name)], 4, api.ErrEnd)
		}
	}
	head := []byte{31, 139, 8, 8, 0, 0, 0, 0, 0, 0}
	refused(t, "a name without an end", append(slices.Clone(head), bytes.Repeat([]byte{1}, 1000)...), 0, api.ErrEnd)
	refused(t, "a remark without an end", append(changed(head, 3, 24), 'n', 0, 'r'), 0, api.ErrEnd)
	// No byte 0 is taken from ahead of the name: the time has some.
	refused(t, "a name that doesn't begin", head, 0, api.ErrEnd)
}

// P10.1: the half of the sum is that of all bytes ahead of it, and is asked ahead of the packed bytes.
func TestHalf(t *testing.T) {
	for _, flags := range []byte{2, 3, 6, 10, 18, 31} {
		m := member{flags: flags, untold: [6]byte{9, 8, 7, 6, 5, 4}, extra: []byte("extra"), name: "name", remark: "remark", text: "text", mode: 0}
		b := m.bytes(t)
		first := packed(t, "first", 0)
		end := len(m.head())
		answered(t, "a half behind a member", slices.Concat(first, b), 9, "firsttext", 6+5)
		for at := range end {
			if at < 4 || at >= 10 && at < end-2 && flags != 2 && flags != 3 {
				continue // another head, if it is changed: held against the model below
			}
			for bit := range 8 {
				c := changed(b, at, b[at]^1<<bit)
				refused(t, "a half of other bytes", c, 4, api.ErrSum)
				refused(t, "a half, and a limit too small", c, 3, api.ErrSum)
				refused(t, "a half, and kind 3", changed(c, end, 7), 4, api.ErrSum)
				refused(t, "a half, and nothing behind", c[:end], 4, api.ErrSum)
				refused(t, "a half behind a member", slices.Concat(first, c), 9, api.ErrSum)
			}
		}
		refused(t, "a half the other way round", changed(changed(b, end-2, b[end-1]), end-1, b[end-2]), 4, api.ErrSum)
		refused(t, "half a half", changed(b, end-2, b[end-2]+1)[:end-1], 4, api.ErrEnd)
	}
}

// P10.1: the further bytes, the name and the remark are part of what the half is of.
func TestHalfOfAll(t *testing.T) {
	m := member{flags: 30, extra: []byte("extra"), name: "name", remark: "remark", text: "text", mode: 0}
	b := m.bytes(t)
	for _, at := range []int{12, 16, 17, 20, 22, 27} {
		refused(t, "another sign", changed(b, at, b[at]^0x80), 4, api.ErrSum)
	}
}

// P10.1: what layer 8 refuses is refused with its error.
func TestPackedBytes(t *testing.T) {
	head := packed(t, "", 1)[:10]
	for _, c := range []struct {
		name   string
		packed []byte
		limit  int
		want   api.Errno
	}{
		{"kind 3", []byte{7}, 9, api.ErrForm},
		{"a length not turned", []byte{1, 1, 0, 1, 0, 65}, 9, api.ErrForm},
		{"bytes lack", []byte{1, 2, 0, 253, 255, 65}, 9, api.ErrEnd},
		{"no byte", nil, 9, api.ErrEnd},
		{"no last block", []byte{0, 0, 0, 255, 255}, 9, api.ErrEnd},
		{"too long", []byte{1, 2, 0, 253, 255, 65, 66}, 1, api.ErrLong},
		{"too long, and bytes lack", []byte{1, 2, 0, 253, 255}, 1, api.ErrLong},
		{"a distance too far", []byte{3, 2, 0}, 9, api.ErrForm},
	} {
		b := slices.Concat(head, c.packed)
		refused(t, c.name, b, c.limit, c.want)
		refused(t, c.name+" behind a member", slices.Concat(packed(t, "abc", 1), b), c.limit+3, c.want)
		if c.want != api.ErrEnd {
			refused(t, c.name+" with a wrong tail", append(b, 1, 2, 3, 4, 5, 6, 7, 8), c.limit, c.want)
		}
	}
}

// P10.1: each bit of the sum, and of how many bytes there are; the sum is asked first.
func TestTail(t *testing.T) {
	for _, text := range []string{"", "a", "abc", noise(300)} {
		for mode := range 3 {
			b := packed(t, text, mode)
			end := len(b) - 8
			for bit := range 32 {
				sum := changed(b, end+bit/8, b[end+bit/8]^1<<(bit%8))
				refused(t, "another sum", sum, len(text), api.ErrSum)
				size := changed(b, end+4+bit/8, b[end+4+bit/8]^1<<(bit%8))
				refused(t, "another size", size, len(text), api.ErrSize)
				both := changed(sum, end+4+bit/8, size[end+4+bit/8])
				refused(t, "another sum and size", both, len(text), api.ErrSum)
				for n := range 4 {
					refused(t, "another sum, bytes of the size lack", sum[:end+4+n], len(text), api.ErrSum)
					refused(t, "another sum, cut", sum[:end+n], len(text), api.ErrEnd)
					refused(t, "another size, cut", size[:end+4+n], len(text), api.ErrEnd)
				}
				refused(t, "another sum, and no member behind", append(sum, 1), len(text), api.ErrSum)
				refused(t, "another size, and no member behind", append(size, 1), len(text), api.ErrSize)
			}
			// The order of bytes counts.
			swapped := slices.Clone(b)
			slices.Reverse(swapped[end : end+4])
			if text != "" {
				refused(t, "a sum the other way round", swapped, len(text), api.ErrSum)
			}
		}
	}
}

// P10.1: a file is members and nothing else.
func TestBehind(t *testing.T) {
	b := packed(t, "abc", 1)
	for _, c := range []struct {
		behind string
		want   api.Errno
	}{
		{"\x00", api.ErrEnd}, {"\x00\x00", api.ErrEnd}, {"\x00\x00\x00", api.ErrKind}, {strings.Repeat("\x00", 512), api.ErrKind},
		{"\x1f", api.ErrEnd}, {"\x1f\x8b", api.ErrEnd}, {"\x1f\x8b\x08", api.ErrEnd}, {"\x1f\x8b\x08\x20", api.ErrForm}, {"\x1f\x8b\x08\x00", api.ErrEnd}, {"\n\x1f\x8b\x08", api.ErrKind},
	} {
		refused(t, "behind", append(slices.Clone(b), c.behind...), 3, c.want)
		refused(t, "behind two", slices.Concat(b, b, []byte(c.behind)), 6, c.want)
	}
}

// P10.1: the limit is that of all members together.
func TestLimitOfAll(t *testing.T) {
	a, b, empty := packed(t, "abc", 0), packed(t, strings.Repeat("d", 300), 1), packed(t, "", 2)
	whole := slices.Concat(empty, a, empty, b, a, empty)
	text := "abc" + strings.Repeat("d", 300) + "abc"
	answered(t, "just so many", whole, 306, text, 2+4+2+5+4+2)
	answered(t, "more than so many", whole, 1<<20, text, 2+4+2+5+4+2)
	for _, limit := range []int{0, 2, 3, 302, 303, 304, 305} {
		refused(t, "too few", whole, limit, api.ErrLong)
	}
	answered(t, "nothing is left, and nothing more comes", slices.Concat(a, empty), 3, "abc", 4+2)
	refused(t, "nothing is left, and a sum is wrong ahead", slices.Concat(changed(a, len(a)-8, a[len(a)-8]+1), a), 3, api.ErrSum)
	refused(t, "nothing is left, and a size is wrong ahead", slices.Concat(changed(a, len(a)-4, 2), a), 3, api.ErrSize)
	refused(t, "nothing is left, and a sum is wrong behind", slices.Concat(a, changed(a, len(a)-8, 0)), 3, api.ErrLong)
}

// P10.1: the most bytes that there may be, by one member and by several, and one more.
func TestMost(t *testing.T) {
	const most = 1 << 20
	zeros := strings.Repeat("\x00", most)
	for mode := range 3 {
		text := noise(most)
		b := packed(t, text, mode)
		if x, err := gzip.Unpack(b, most); err != nil || string(x) != text {
			t.Error(mode, len(x), err)
		}
		refused(t, "most", b, most-1, api.ErrLong)
		refused(t, "one more", slices.Concat(b, packed(t, "a", mode)), most, api.ErrLong)
	}
	half := packed(t, zeros[:most/2], 1)
	if x, err := gzip.Unpack(slices.Concat(half, half), most); err != nil || string(x) != zeros {
		t.Error(len(x), err)
	}
	refused(t, "one more", slices.Concat(half, half, packed(t, "a", 1)), most, api.ErrLong)
	refused(t, "as many more", slices.Concat(half, half, half), most, api.ErrLong)
}

// P10.1: the steps of all members together, as layer 8 tells them.
func TestSteps(t *testing.T) {
	draw := rand.New(rand.NewSource(11))
	var whole []byte
	text, steps := "", 0
	for range 40 {
		m := drawnMember(draw, 500)
		whole = append(whole, m.bytes(t)...)
		text, steps = text+m.text, steps+m.steps(t)
		answered(t, "members", whole, len(text), text, steps)
	}
}

// P10.1: any file with any change, held against the model.
func TestModel(t *testing.T) {
	draw := rand.New(rand.NewSource(10))
	for range 500 {
		var whole []byte
		size := 0
		for range 1 + draw.Intn(3) {
			m := drawnMember(draw, 40)
			size += len(m.text)
			whole = append(whole, m.bytes(t)...)
		}
		asModel(t, "right", whole, size)
		asModel(t, "a smaller limit", whole, draw.Intn(size+1))
		for range 20 {
			b := changed(whole, draw.Intn(len(whole)), byte(draw.Intn(256)))
			asModel(t, "a byte", b, size)
			asModel(t, "a byte, cut", b[:draw.Intn(len(b))], size)
			at := draw.Intn(len(whole))
			asModel(t, "a bit", changed(whole, at, whole[at]^1<<draw.Intn(8)), 1<<20)
			asModel(t, "a byte taken out", slices.Delete(slices.Clone(whole), at, at+1), size)
			asModel(t, "a byte put in", slices.Insert(slices.Clone(whole), at, byte(draw.Intn(256))), size)
		}
	}
}

// P10.1: files of more than one piece, packed by the library by all kinds of blocks, with any change.
func TestModelLong(t *testing.T) {
	draw := rand.New(rand.NewSource(15))
	for i := range 60 {
		var b bytes.Buffer
		w, err := gz.NewWriterLevel(&b, i%10)
		if err != nil {
			t.Fatal(err)
		}
		text := drawnText(draw, draw.Intn(9000), 1+draw.Intn(60))
		if _, err := w.Write([]byte(text)); err != nil {
			t.Fatal(err)
		}
		if err := w.Close(); err != nil {
			t.Fatal(err)
		}
		whole := slices.Concat(b.Bytes(), packed(t, "behind", 1))
		asModel(t, "right", whole, len(text)+6)
		for range 40 {
			at := draw.Intn(len(whole))
			c := changed(whole, at, whole[at]^1<<draw.Intn(8))
			asModel(t, "a bit", c, len(text)+6)
			asModel(t, "a bit, cut", c[:draw.Intn(len(c))], len(text)+6)
			asModel(t, "a bit, a smaller limit", c, draw.Intn(len(text)+1))
		}
	}
}

// P10.1: each bit of a member that has all there is, and each cut of that.
func TestModelAll(t *testing.T) {
	m := member{flags: 31, untold: [6]byte{1, 2, 3, 4, 5, 6}, extra: []byte{1, 0, 2}, name: "n", remark: "re", text: "abcabcabc", mode: 1}
	b := slices.Concat(m.bytes(t), packed(t, "x", 0))
	for at := range b {
		for bit := range 8 {
			c := changed(b, at, b[at]^1<<bit)
			for _, limit := range []int{0, 8, 9, 10, 1 << 20} {
				asModel(t, "a bit", c, limit)
			}
			for n := range c {
				asModel(t, "a bit, cut", c[:n], 10)
			}
		}
	}
}

// P10.1: any bytes at all.
func TestAnyBytes(t *testing.T) {
	draw := rand.New(rand.NewSource(12))
	for range 20000 {
		b := make([]byte, draw.Intn(60))
		draw.Read(b)
		copy(b, []byte{31, 139, 8}[:draw.Intn(4)])
		if len(b) > 3 {
			b[3] &= 63
		}
		asModel(t, "any bytes", b, draw.Intn(100))
	}
}

// P10.1: nothing that is handed in is changed or kept, and answers share nothing.
func TestNeitherChangedNorKept(t *testing.T) {
	room := []byte("abcabcabc, and room behind")
	for mode := range 3 {
		text := slices.Clone(room)
		b, err := gzip.Pack(text[:9], mode)
		if err != nil || !bytes.Equal(text, room) {
			t.Errorf("mode %d: %q, %v", mode, text, err)
		}
		want := slices.Clone(b)
		clear(text)
		if !bytes.Equal(b, want) {
			t.Error("kept:", b)
		}
		whole := append(slices.Clone(b), "and room behind"...)
		x, err := gzip.Unpack(whole[:len(b)], 9)
		if err != nil || !bytes.Equal(whole, append(slices.Clone(want), "and room behind"...)) {
			t.Error("changed:", whole, err)
		}
		clear(whole)
		if string(x) != "abcabcabc" {
			t.Errorf("kept: %q", x)
		}
		clear(x)
		answered(t, "again", b, 9, "abcabcabc", member{text: "abcabcabc", mode: mode}.steps(t))
		refused(t, "refused between", b[:7], 9, api.ErrEnd)
		answered(t, "again", b, 9, "abcabcabc", member{text: "abcabcabc", mode: mode}.steps(t))
		clear(b)
		if again := packed(t, "abcabcabc", mode); !bytes.Equal(again, want) {
			t.Error("kept:", again)
		}
	}
}

// P10.2: what is packed is unpacked, here and by the library.
func TestThereAndBack(t *testing.T) {
	draw := rand.New(rand.NewSource(13))
	texts := []string{"", "a", "\x00", "\x1f\x8b\x08", strings.Repeat("all that is written ", 500), noise(65535), noise(65536), noise(200000)}
	for range 300 {
		texts = append(texts, drawnText(draw, draw.Intn(3000), 1+draw.Intn(256)))
	}
	for _, text := range texts {
		for mode := range 3 {
			b := packed(t, text, mode)
			if !gzip.Is(b) {
				t.Error("Is", b)
			}
			answered(t, "there and back", b, len(text), text, member{text: text, mode: mode}.steps(t))
			if x := libraryText(t, b); x != text {
				t.Errorf("the library: %d bytes: want %d", len(x), len(text))
			}
			if len(text) > 0 {
				refused(t, "there and back, one too few", b, len(text)-1, api.ErrLong)
			}
			if mode == 2 && len(b) > deflate.Bound(len(text))+18 {
				t.Errorf("%d bytes of %d", len(b), len(text))
			}
		}
	}
}

// P10.2: what the library packs is unpacked, whatever stands in its head.
func TestLibrary(t *testing.T) {
	for level := gz.HuffmanOnly; level <= gz.BestCompression; level++ {
		for _, text := range []string{"", "a", strings.Repeat("all that is written ", 5000), noise(70000)} {
			var b bytes.Buffer
			w, err := gz.NewWriterLevel(&b, level)
			if err != nil {
				t.Fatal(err)
			}
			w.Header = gz.Header{Name: "name", Comment: "remark", Extra: []byte("abc"), OS: 3}
			if _, err := w.Write([]byte(text)); err != nil {
				t.Fatal(err)
			}
			if err := w.Close(); err != nil {
				t.Fatal(err)
			}
			twice := slices.Concat(b.Bytes(), b.Bytes())
			for _, c := range []struct {
				b    []byte
				text string
			}{{b.Bytes(), text}, {twice, text + text}} {
				if x, err := gzip.Unpack(c.b, len(c.text)); err != nil || string(x) != c.text {
					t.Errorf("level %d: %d bytes, %v: want %d", level, len(x), err, len(c.text))
				}
			}
		}
	}
}

// P10.2: texts of each length at the edges of the pieces in which a file is unpacked, with a member behind.
func TestAllLengths(t *testing.T) {
	text := noise(66000)
	behind := packed(t, "behind", 1)
	var sizes []int
	for _, edge := range []int{0, 256, 4096, 65536} {
		for size := edge - 300; size <= edge+20; size++ {
			if size >= 0 && (edge < 65536 || size > edge-40) {
				sizes = append(sizes, size)
			}
		}
	}
	for _, size := range sizes {
		b := slices.Concat(packed(t, text[:size], 0), behind)
		if x, err := gzip.Unpack(b, size+6); err != nil || string(x) != text[:size]+"behind" {
			t.Errorf("%d bytes: %d bytes, %v", size, len(x), err)
		}
		refused(t, "too long", b, max(size, 1)-1, api.ErrLong)
		refused(t, "cut", b[:10+size], size, api.ErrEnd)
		refused(t, "too long, with the last one", b, size+5, api.ErrLong)
	}
}

// P10.2: files behind one another come to their texts behind one another: all pairs, and many.
func TestBehindOneAnother(t *testing.T) {
	draw := rand.New(rand.NewSource(14))
	var members []member
	for range 30 {
		members = append(members, drawnMember(draw, 300))
	}
	for _, a := range members {
		for _, b := range members {
			whole := slices.Concat(a.bytes(t), b.bytes(t))
			answered(t, "a pair", whole, len(a.text+b.text), a.text+b.text, a.steps(t)+b.steps(t))
			if x := libraryText(t, whole); x != a.text+b.text {
				t.Error("the library")
			}
		}
	}
	for range 20 {
		var files, both []byte
		text := ""
		for range draw.Intn(20) + 1 {
			m := members[draw.Intn(len(members))]
			files, text = append(files, m.bytes(t)...), text+m.text
		}
		both = slices.Concat(files, files)
		if x, err := gzip.Unpack(both, 2*len(text)); err != nil || string(x) != text+text {
			t.Error(len(x), err)
		}
	}
}

// P10.2: more members than there is room for in a blob come to their texts; each one is short.
func TestManyMembers(t *testing.T) {
	const count = 1 << 16
	whole := bytes.Repeat(packed(t, "a", 1), count)
	answered(t, "many", whole, count, strings.Repeat("a", count), 3*count)
	refused(t, "many, and one cut", whole[:len(whole)-1], count, api.ErrEnd)
}
