package feed_test

import (
	"math/rand"
	"strings"
	"testing"

	"baler/api"
	"baler/feed"
	"baler/rle"
)

// like is a text of so many like bytes.
func like(b byte, n int) string { return strings.Repeat(string([]byte{b}), n) }

// short is a text to be shown.
func short(s string) string {
	if len(s) > 60 {
		return s[:60] + ".."
	}
	return s
}

// packed is a piece as bytes; nothing of none.
func packed(p api.Piece) string {
	if p.N < 4 {
		return like(p.Byte, p.N)
	}
	return like(p.Byte, 4) + like(byte(p.N-4), 1)
}

// plain is a packer as the chapter tells it: all bytes since the last piece that was told.
type plain struct{ row string }

// put is what a packer tells of a byte.
func (m *plain) put(b byte) string {
	if m.row != "" && m.row[0] != b {
		told := m.end()
		m.row = like(b, 1)
		return told
	}
	m.row += like(b, 1)
	if len(m.row) == 255 {
		return m.end()
	}
	return ""
}

// end is what a packer tells at an end.
func (m *plain) end() string {
	told := packed(m.piece())
	m.row = ""
	return told
}

// piece is the row.
func (m *plain) piece() api.Piece {
	if m.row == "" {
		return api.Piece{}
	}
	return api.Piece{Byte: m.row[0], N: len(m.row)}
}

// pair is a packer, and what it must be.
type pair struct {
	t    *testing.T
	p    *feed.Packer
	want plain
}

// pairOf is a new packer, held against its model.
func pairOf(t *testing.T) *pair {
	x := &pair{t: t, p: feed.NewPacker()}
	if x.p == nil {
		t.Fatal("NewPacker: nil")
	}
	x.look("at first")
	return x
}

// look fails unless the row is the right one.
func (x *pair) look(when string) {
	x.t.Helper()
	for range 2 {
		if p := x.p.Row(); p != x.want.piece() {
			x.t.Fatalf("Row %s: %v, not %v", when, p, x.want.piece())
		}
	}
}

// put puts a byte, and fails unless the right piece is told.
func (x *pair) put(b byte) string {
	x.t.Helper()
	row := x.want.piece()
	want := x.want.put(b)
	if s := x.p.Put(b); s != want {
		x.t.Fatalf("Put(%d) with the row %v: %q, not %q", b, row, s, want)
	}
	x.look("behind Put")
	return want
}

// putAll puts the bytes of a text, one by one, and answers what was told.
func (x *pair) putAll(s string) string {
	x.t.Helper()
	var told strings.Builder
	for i := range len(s) {
		told.WriteString(x.put(s[i]))
	}
	return told.String()
}

// end ends the row, and fails unless its piece is told.
func (x *pair) end() string {
	x.t.Helper()
	row := x.want.piece()
	want := x.want.end()
	if s := x.p.End(); s != want {
		x.t.Fatalf("End with the row %v: %q, not %q", row, s, want)
	}
	x.look("behind End")
	return want
}

// 4.1: what each byte tells, and the row behind it.
func TestPut(t *testing.T) {
	p := feed.NewPacker()
	if p.Row() != (api.Piece{}) {
		t.Errorf("Row at first: %v", p.Row())
	}
	for i, c := range []struct {
		b    byte
		told string
		row  api.Piece
	}{
		{'a', "", api.Piece{Byte: 'a', N: 1}}, {'a', "", api.Piece{Byte: 'a', N: 2}}, {'a', "", api.Piece{Byte: 'a', N: 3}},
		{'a', "", api.Piece{Byte: 'a', N: 4}}, {'a', "", api.Piece{Byte: 'a', N: 5}}, {'b', "aaaa\x01", api.Piece{Byte: 'b', N: 1}},
		{'c', "b", api.Piece{Byte: 'c', N: 1}}, {'c', "", api.Piece{Byte: 'c', N: 2}}, {'b', "cc", api.Piece{Byte: 'b', N: 1}},
		{0, "b", api.Piece{Byte: 0, N: 1}}, {0, "", api.Piece{Byte: 0, N: 2}}, {0xff, "\x00\x00", api.Piece{Byte: 0xff, N: 1}},
		{0, "\xff", api.Piece{Byte: 0, N: 1}},
	} {
		if s := p.Put(c.b); s != c.told || p.Row() != c.row {
			t.Errorf("the byte %d: %q, the row %v, not %q, %v", i, s, p.Row(), c.told, c.row)
		}
	}
}

// 4.1: a row of 255 is told at once, and the next byte begins another one, be it like or not.
func TestFullRow(t *testing.T) {
	for _, b := range []byte{0, 'z', 0xff} {
		p := feed.NewPacker()
		for i := range 3 * 255 {
			n := i%255 + 1
			want, row := "", api.Piece{Byte: b, N: n}
			if n == 255 {
				want, row = like(b, 4)+"\xfb", api.Piece{}
			}
			if s := p.Put(b); s != want || p.Row() != row {
				t.Fatalf("the byte %d: %q, the row %v", i, s, p.Row())
			}
		}
		if s := p.End(); s != "" {
			t.Errorf("End behind a row of 255: %q", s)
		}
		if s := p.Put(b + 1); s != "" || p.Row() != (api.Piece{Byte: b + 1, N: 1}) {
			t.Errorf("behind a row of 255: %q, the row %v", s, p.Row())
		}
	}
}

// 4.1: End tells the row once; behind it like bytes begin a row anew.
func TestEnd(t *testing.T) {
	for _, b := range []byte{0, 'a', 0xff} {
		x := pairOf(t)
		for range 3 {
			if s := x.end(); s != "" {
				t.Fatalf("End of no row: %q", s)
			}
		}
		for n := 1; n < 255; n++ {
			x.putAll(like(b, n))
			if s := x.end(); s != packed(api.Piece{Byte: b, N: n}) {
				t.Fatalf("End of %d: %q", n, s)
			}
			if s := x.end(); s != "" {
				t.Fatalf("End once more: %q", s)
			}
		}
	}
}

// 4.1: rows of each length, ended by each way in which a row ends.
func TestRows(t *testing.T) {
	for _, b := range []byte{0, 1, 'a', 0xfe, 0xff} {
		x := pairOf(t)
		for n := range 260 {
			x.putAll(like(b, n))
			x.put(b + 1)
		}
		x.end()
	}
}

// 4.1: each byte behind each byte.
func TestEachByte(t *testing.T) {
	x := pairOf(t)
	for b := range 256 {
		for n := range 256 {
			x.put(byte(b))
			x.put(byte(n))
		}
	}
	x.end()
}

// 4.1: bytes and ends as they come, always the same ones.
func TestPutAndEnd(t *testing.T) {
	random := rand.New(rand.NewSource(1))
	for range 30 {
		x := pairOf(t)
		for range 60 {
			if random.Intn(4) == 0 {
				x.end()
			}
			lengths := []int{1, 1, 2, 3, 4, 5, 100, 253, 254, 255, 256, 257}
			x.putAll(like(byte(random.Intn(3)*127), lengths[random.Intn(len(lengths))]))
		}
	}
}

// someText is a text of rows, always the same ones.
func someText(random *rand.Rand, rows int) string {
	lengths := []int{1, 1, 1, 2, 3, 4, 5, 6, 8, 9, 50, 251, 254, 255, 256, 259, 510, 511}
	var out strings.Builder
	for range rows {
		out.WriteString(like(byte(random.Intn(3)*127), lengths[random.Intn(len(lengths))]))
	}
	return out.String()
}

// 4.3: what a packer tells of a text, with End, is the packed text.
func TestPackerEncodes(t *testing.T) {
	random := rand.New(rand.NewSource(2))
	p := feed.NewPacker() // one for all texts: behind End it stands as at first
	for range 200 {
		s := someText(random, random.Intn(15))
		told := ""
		for i := range len(s) {
			told += p.Put(s[i])
		}
		told += p.End()
		if told != rle.Encode(s) {
			t.Fatalf("of %q: %q, not %q", short(s), short(told), short(rle.Encode(s)))
		}
	}
}

// 4.4: at any time all pieces are told but the last one, if more bytes might still be of it.
func TestSure(t *testing.T) {
	s := someText(rand.New(rand.NewSource(3)), 20)
	p := feed.NewPacker()
	told := ""
	for i := range len(s) {
		told += p.Put(s[i])
		want, row := "", api.Piece{}
		for _, piece := range rle.Pieces(s[:i+1]) {
			want += packed(row)
			row = piece
		}
		if row.N == 255 {
			want += packed(row)
			row = api.Piece{}
		}
		if told != want || p.Row() != row {
			t.Fatalf("of %d bytes: %q, the row %v, not %q, %v", i+1, told, p.Row(), want, row)
		}
	}
}

// R6: two packers have rows of their own; Row changes nothing.
func TestTwoPackers(t *testing.T) {
	a, b := feed.NewPacker(), feed.NewPacker()
	a.Put('x')
	a.Put('x')
	b.Put('y')
	if a.Row() != (api.Piece{Byte: 'x', N: 2}) || b.Row() != (api.Piece{Byte: 'y', N: 1}) {
		t.Errorf("Row: %v, %v", a.Row(), b.Row())
	}
	if x, y := a.End(), b.Put('z'); x != "xx" || y != "y" {
		t.Errorf("%q, %q", x, y)
	}
	if a.Row() != (api.Piece{}) || b.End() != "z" {
		t.Errorf("Row: %v", a.Row())
	}
}

// 4.1: of nil.
func TestNoPacker(t *testing.T) {
	var p *feed.Packer
	for _, b := range []byte{0, 'a', 'a', 0xff} {
		if s := p.Put(b); s != "" {
			t.Errorf("Put: %q", s)
		}
	}
	if s := p.End(); s != "" || p.Row() != (api.Piece{}) {
		t.Errorf("End: %q, Row: %v", s, p.Row())
	}
}

// The bound: a long text byte by byte.
func TestLongPack(t *testing.T) {
	s := strings.Repeat("ab"+like('c', 300)+like('d', 5), 3000)
	p := feed.NewPacker()
	var told strings.Builder
	for i := range len(s) {
		told.WriteString(p.Put(s[i]))
	}
	told.WriteString(p.End())
	if want := strings.Repeat("abcccc\xfbcccc\x29dddd\x01", 3000); told.String() != want {
		t.Errorf("%d bytes, not %d", told.Len(), len(want))
	}
}
