package rle_test

import (
	"math"
	"math/rand"
	"strings"
	"testing"

	"baler/api"
	"baler/rle"
)

// like is a text of so many like bytes.
func like(b byte, n int) string { return strings.Repeat(string([]byte{b}), n) }

// of is a piece.
func of(b byte, n int) api.Piece { return api.Piece{Byte: b, N: n} }

// plain are a text's pieces as the chapter tells them: whole rows first, then each of them cut.
func plain(s string) []api.Piece {
	var whole, cut []api.Piece
	for i := range len(s) {
		if i == 0 || s[i] != s[i-1] {
			whole = append(whole, api.Piece{Byte: s[i]})
		}
		whole[len(whole)-1].N++
	}
	for _, p := range whole {
		for ; p.N > 255; p.N -= 255 {
			cut = append(cut, api.Piece{Byte: p.Byte, N: 255})
		}
		cut = append(cut, p)
	}
	return cut
}

// packed are pieces as bytes.
func packed(pieces []api.Piece) string {
	var out strings.Builder
	for _, p := range pieces {
		if p.N < 4 {
			out.WriteString(like(p.Byte, p.N))
		} else {
			out.WriteString(like(p.Byte, 4) + like(byte(p.N-4), 1))
		}
	}
	return out.String()
}

// short is a text to be shown.
func short(s string) string {
	if len(s) > 60 {
		return s[:60] + ".."
	}
	return s
}

// wantPieces fails unless these are a text's pieces.
func wantPieces(t *testing.T, s string, want []api.Piece) {
	t.Helper()
	got := rle.Pieces(s)
	if len(got) != len(want) {
		t.Fatalf("Pieces(%q) of %d: %d of them, not %d", short(s), len(s), len(got), len(want))
	}
	for i, p := range want {
		if got[i] != p {
			t.Fatalf("Pieces(%q) of %d: the piece %d is %v, not %v", short(s), len(s), i, got[i], p)
		}
	}
}

// wantEncode fails unless that is the packed text, and Size tells how long it is.
func wantEncode(t *testing.T, s, want string) {
	t.Helper()
	if x := rle.Encode(s); x != want {
		t.Fatalf("Encode(%q) of %d: %q of %d, not %q of %d", short(s), len(s), short(x), len(x), short(want), len(want))
	}
	if n := rle.Size(s); n != len(want) {
		t.Fatalf("Size(%q) of %d: %d, not %d", short(s), len(s), n, len(want))
	}
}

// rowsText is a text of rows whose lengths lie where something changes, always the same ones.
func rowsText(random *rand.Rand, rows int) string {
	lengths := []int{1, 1, 1, 2, 3, 4, 5, 6, 7, 8, 9, 100, 251, 252, 253, 254, 255, 256, 257, 258, 259, 260, 509, 510, 511, 514, 765, 766}
	var out strings.Builder
	for range rows {
		out.WriteString(like(byte(random.Intn(3)*127), lengths[random.Intn(len(lengths))]))
	}
	return out.String()
}

// eachText hands on all texts up to a length, of some bytes.
func eachText(letters string, most int, tell func(s string)) {
	texts := []string{""}
	for range most + 1 {
		var longer []string
		for _, s := range texts {
			tell(s)
			for i := range len(letters) {
				longer = append(longer, s+letters[i:i+1])
			}
		}
		texts = longer
	}
}

// 3.1: the pieces, from left to right, cut at 255 from the beginning of their row on.
func TestPieces(t *testing.T) {
	for _, c := range []struct {
		s    string
		want []api.Piece
	}{
		{"", nil},
		{"a", []api.Piece{of('a', 1)}},
		{"\x00", []api.Piece{of(0, 1)}},
		{"\xff\xff", []api.Piece{of(0xff, 2)}},
		{"abc", []api.Piece{of('a', 1), of('b', 1), of('c', 1)}},
		{"aaaaaab", []api.Piece{of('a', 6), of('b', 1)}},
		{"abbbbba", []api.Piece{of('a', 1), of('b', 5), of('a', 1)}},
		{"\x00\x00\x01\x00", []api.Piece{of(0, 2), of(1, 1), of(0, 1)}},
		{"\xc3\xa4\xa4", []api.Piece{of(0xc3, 1), of(0xa4, 2)}},
		{like('x', 254), []api.Piece{of('x', 254)}},
		{like('x', 255), []api.Piece{of('x', 255)}},
		{like('x', 255) + "y", []api.Piece{of('x', 255), of('y', 1)}},
		{like('x', 256), []api.Piece{of('x', 255), of('x', 1)}},
		{like('x', 510), []api.Piece{of('x', 255), of('x', 255)}},
		{like('x', 511), []api.Piece{of('x', 255), of('x', 255), of('x', 1)}},
		{"a" + like('x', 520) + "y", []api.Piece{of('a', 1), of('x', 255), of('x', 255), of('x', 10), of('y', 1)}},
		{like(0, 300) + like(0xff, 300), []api.Piece{of(0, 255), of(0, 45), of(0xff, 255), of(0xff, 45)}},
	} {
		wantPieces(t, c.s, c.want)
	}
}

// 3.1: rows of each length.
func TestPiecesOfRows(t *testing.T) {
	for n := range 800 {
		for _, s := range []string{like('x', n), "y" + like(0, n), like(0xff, n) + "y"} {
			wantPieces(t, s, plain(s))
		}
	}
}

// 3.1: a piece as bytes, of each byte and each length.
func TestPiece(t *testing.T) {
	for b := range 256 {
		for n := 1; n <= 255; n++ {
			p := api.Piece{Byte: byte(b), N: n}
			if s, e := rle.Piece(p); s != packed([]api.Piece{p}) || e != api.OK {
				t.Fatalf("Piece(%v): %q, %v", p, s, e)
			}
		}
	}
	for _, c := range []struct {
		p    api.Piece
		want string
	}{
		{of('a', 1), "a"}, {of('a', 3), "aaa"}, {of('a', 4), "aaaa\x00"},
		{of('a', 5), "aaaa\x01"}, {of(0xff, 255), "\xff\xff\xff\xff\xfb"},
	} {
		if s, e := rle.Piece(c.p); s != c.want || e != api.OK {
			t.Errorf("Piece(%v): %q, %v", c.p, s, e)
		}
	}
}

// 3.1: pieces that may not be; no text beside the error (R4).
func TestNoPiece(t *testing.T) {
	for _, n := range []int{0, -1, -4, -255, 256, 257, 260, 511, 1 << 20, math.MaxInt32, math.MinInt32, math.MaxInt, math.MinInt, math.MinInt + 1} {
		for _, b := range []byte{0, 'a', 0xff} {
			if s, e := rle.Piece(api.Piece{Byte: b, N: n}); s != "" || e != api.ErrArg {
				t.Errorf("Piece of %d: %q, %v", n, s, e)
			}
		}
	}
}

// 3.1: the packed text, and how many bytes it has.
func TestEncode(t *testing.T) {
	for s, want := range map[string]string{
		"": "", "a": "a", "abc": "abc", "aa": "aa", "aaa": "aaa", "aaaa": "aaaa\x00", "aaaaa": "aaaa\x01",
		"aaaaaab": "aaaa\x02b", "aaab": "aaab", "aaaab": "aaaa\x00b", "aaaaaaaa": "aaaa\x04", "baaaa": "baaaa\x00",
		"aaaabbbb": "aaaa\x00bbbb\x00", "\x00\x00\x00\x00": "\x00\x00\x00\x00\x00", "\x00\x00\x00\x00\x00": "\x00\x00\x00\x00\x01",
		"\xff\xff\xff\xff\xff\xff": "\xff\xff\xff\xff\x02", "\xfe\xff\xc3\x28": "\xfe\xff\xc3\x28", "abababab": "abababab",
		like('x', 254): "xxxx\xfa", like('x', 255): "xxxx\xfb", like('x', 256): "xxxx\xfbx", like('x', 258): "xxxx\xfbxxx",
		like('x', 259): "xxxx\xfbxxxx\x00", like('x', 510): "xxxx\xfbxxxx\xfb", like('x', 520): "xxxx\xfbxxxx\xfbxxxx\x06",
		like('x', 255) + "y": "xxxx\xfby", "xxx" + like('y', 257): "xxxyyyy\xfbyy",
	} {
		wantEncode(t, s, want)
	}
}

// 3.1: all short texts, each byte, and long rows; the same call tells the same (R6).
func TestEncodeAll(t *testing.T) {
	eachText("\x00\x01\xff", 8, func(s string) {
		wantPieces(t, s, plain(s))
		wantEncode(t, s, packed(plain(s)))
	})
	for b := range 256 {
		for n := range 12 {
			s := like(byte(b), n)
			wantEncode(t, s, packed(plain(s)))
		}
	}
	random := rand.New(rand.NewSource(1))
	for range 300 {
		s := rowsText(random, random.Intn(12))
		for range 2 {
			wantPieces(t, s, plain(s))
			wantEncode(t, s, packed(plain(s)))
		}
	}
}

// 3.1: a packed text is Piece of its pieces, one behind the other.
func TestEncodePieces(t *testing.T) {
	s := rowsText(rand.New(rand.NewSource(2)), 60)
	all := ""
	for _, p := range rle.Pieces(s) {
		x, e := rle.Piece(p)
		if e != api.OK {
			t.Fatalf("Piece(%v): %v", p, e)
		}
		all += x
	}
	if all != rle.Encode(s) {
		t.Errorf("%q, not %q", short(all), short(rle.Encode(s)))
	}
}

// R3: pieces that were answered are the caller's.
func TestPiecesAnew(t *testing.T) {
	s := "aabbbb" + like('c', 300)
	first := rle.Pieces(s)
	for i := range first {
		first[i] = of('z', 7)
	}
	_ = append(first[:0], of('y', 9))
	wantPieces(t, s, plain(s))
	wantEncode(t, s, "aabbbb\x00cccc\xfbcccc\x29")
}

// 3.4: at most five bytes for four, which rows of four need; of a piece of 255 five.
func TestAtMost(t *testing.T) {
	random := rand.New(rand.NewSource(3))
	for range 200 {
		s := rowsText(random, 1+random.Intn(20))
		if n := rle.Size(s); 4*n > 5*len(s) {
			t.Errorf("Size(%q) of %d: %d", short(s), len(s), n)
		}
	}
	for n := range 100 {
		if size := rle.Size(strings.Repeat("aaaabbbb", n)); size != 10*n {
			t.Errorf("Size of %d rows of four: %d", 2*n, size)
		}
		if size := rle.Size(like('a', 255*n)); size != 5*n {
			t.Errorf("Size of %d pieces of 255: %d", n, size)
		}
	}
}

// 3.5: two pieces side by side have unlike bytes, or the first one has 255.
func TestSideBySide(t *testing.T) {
	random := rand.New(rand.NewSource(4))
	for range 200 {
		pieces := rle.Pieces(rowsText(random, random.Intn(20)))
		for i, p := range pieces {
			if p.N < 1 || p.N > 255 || i > 0 && pieces[i-1].Byte == p.Byte && pieces[i-1].N != 255 {
				t.Fatalf("the piece %d is %v behind %v", i, p, pieces[max(i-1, 0)])
			}
		}
	}
}

// The bound: long texts, one of unlike bytes and one of a single row.
func TestLongPieces(t *testing.T) {
	unlike := strings.Repeat("ab", 1<<19)
	if x := rle.Encode(unlike); x != unlike || rle.Size(unlike) != len(unlike) || len(rle.Pieces(unlike)) != len(unlike) {
		t.Errorf("of unlike bytes: %d", len(x))
	}
	row := like('a', 255<<13)
	if x := rle.Encode(row); x != strings.Repeat("aaaa\xfb", 1<<13) || rle.Size(row) != 5<<13 || len(rle.Pieces(row)) != 1<<13 {
		t.Errorf("of a row: %d", len(x))
	}
}
