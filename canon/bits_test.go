package canon_test

import (
	"math/rand"
	"slices"
	"strings"
	"testing"

	"baler/api"
	"baler/bits"
	"baler/canon"
)

// packed are bits as bytes, with bits 0 behind them till there are whole ones.
func packed(row string) string {
	row += strings.Repeat("0", (8-len(row)%8)%8)
	var out []byte
	for i := range len(row) / 8 {
		var b byte
		for _, bit := range row[8*i : 8*i+8] {
			b = 2*b + byte(bit-'0')
		}
		out = append(out, b)
	}
	return string(out)
}

// someBits are n bits.
func someBits(random *rand.Rand, n int) string {
	var out strings.Builder
	for range n {
		out.WriteByte('0' + byte(random.Intn(2)))
	}
	return out.String()
}

// plainGet is the symbol whose code stands first in a row of bits; it is -1, if the bits end within a code.
func plainGet(codes []string, row string) int {
	for symbol, bits := range codes {
		if strings.HasPrefix(row, bits) {
			return symbol
		}
	}
	return -1
}

// wantGet fails unless Get tells a symbol, and goes on by its code's bits.
func wantGet(t *testing.T, c *canon.Code, r *bits.Reader, want, n int) {
	t.Helper()
	at, left := r.At(), r.Left()
	if s, e := c.Get(r); s != want || e != api.OK || r.At() != at+n || r.Left() != left-n {
		t.Fatalf("Get at %d of %d left: %d, %v at %d, not %d by %d", at, left, s, e, r.At(), want, n)
	}
}

// wantNoGet fails unless Get tells an error, nothing beside it, and the place stays.
func wantNoGet(t *testing.T, c *canon.Code, r *bits.Reader, err api.Errno) {
	t.Helper()
	at, left, held := r.At(), r.Left(), r.Held()
	if s, e := c.Get(r); s != 0 || e != err || r.At() != at || r.Left() != left || r.Held() != held {
		t.Fatalf("Get at %d of %d left: %d, %v at %d, not %v", at, left, s, e, r.At(), err)
	}
}

// wantNoPut fails unless Put tells an error, and the writer stays as it was.
func wantNoPut(t *testing.T, c *canon.Code, w *bits.Writer, symbol int, err api.Errno) {
	t.Helper()
	n, held := w.Len(), w.Held()
	if e := c.Put(w, symbol); e != err || w.Len() != n || w.Held() != held {
		t.Fatalf("Put(%d): %v of %d bits, not %v of %d", symbol, e, w.Len(), err, n)
	}
}

// 10.2: symbols are put behind bits of any number, and what is no symbol is not.
func TestPut(t *testing.T) {
	random := rand.New(rand.NewSource(4))
	for ahead := range 17 {
		for range 40 {
			lengths := someWhole(random, 3+random.Intn(1<<random.Intn(9)))
			c, codes := code(t, lengths), plainCodes(lengths)
			w, want := bits.NewWriter(), someBits(random, ahead)
			for _, bit := range want {
				w.Put(uint32(bit-'0'), 1)
			}
			for range 30 {
				symbol := random.Intn(len(lengths))
				if e := c.Put(w, symbol); e != api.OK {
					t.Fatalf("Put(%d): %v", symbol, e)
				}
				want += codes[symbol]
				if w.Len() != len(want) {
					t.Fatalf("Put(%d): %d bits, not %d", symbol, w.Len(), len(want))
				}
				bad := noSymbols(len(lengths))
				wantNoPut(t, c, w, bad[random.Intn(len(bad))], api.ErrArg)
			}
			w.Pad()
			if s := w.Take(); s != packed(want) {
				t.Fatalf("Put: %x, not %x", s, packed(want))
			}
		}
	}
}

// 10.2: each symbol of a code, put and got by itself, one of 20 bits too.
func TestEach(t *testing.T) {
	random := rand.New(rand.NewSource(5))
	for _, lengths := range [][]int{{2, 1, 2}, chain(20), slices.Repeat([]int{8}, 256), someWhole(random, 257), someWhole(random, 258)} {
		c, codes := code(t, lengths), plainCodes(lengths)
		for symbol, bitsOf := range codes {
			w := bits.NewWriter()
			if e := c.Put(w, symbol); e != api.OK || w.Len() != len(bitsOf) {
				t.Fatalf("Put(%d): %v, %d bits", symbol, e, w.Len())
			}
			w.Pad()
			s := w.Take()
			if s != packed(bitsOf) {
				t.Fatalf("Put(%d): %x, not %s", symbol, s, bitsOf)
			}
			for range 2 {
				wantGet(t, c, bits.NewReader(s), symbol, len(bitsOf))
			}
		}
	}
}

// 10.2: bits of any kind are read from any place on, till they end within a code.
func TestGet(t *testing.T) {
	random := rand.New(rand.NewSource(6))
	for range 600 {
		lengths := someWhole(random, 3+random.Intn(1<<random.Intn(9)))
		c, codes := code(t, lengths), plainCodes(lengths)
		row := someBits(random, 8*random.Intn(40))
		r := bits.NewReader(packed(row))
		at := random.Intn(len(row) + 1)
		r.Seek(at)
		for {
			want := plainGet(codes, row[at:])
			if want < 0 {
				break
			}
			wantGet(t, c, r, want, lengths[want])
			at += lengths[want]
			if random.Intn(4) == 0 {
				r.Drop()
			}
		}
		wantNoGet(t, c, r, api.ErrShort)
		wantNoGet(t, c, r, api.ErrShort)
	}
}

// 10.2: of each code's beginning it is told that the bits end; when more come, the symbol is got.
func TestGetShort(t *testing.T) {
	random := rand.New(rand.NewSource(7))
	for _, lengths := range [][]int{{2, 1, 2}, {1, 2, 2}, chain(9), chain(20), someWhole(random, 40), someWhole(random, 258)} {
		c, codes := code(t, lengths), plainCodes(lengths)
		for symbol, bitsOf := range codes {
			for n := range bitsOf {
				ahead := (16 - n%8) % 8
				row := strings.Repeat("1", ahead) + bitsOf
				r := bits.NewReader(packed(row[:ahead+n]))
				r.Seek(ahead)
				wantNoGet(t, c, r, api.ErrShort)
				r.More(packed(row)[(ahead+n)/8:])
				wantGet(t, c, r, symbol, len(bitsOf))
			}
		}
	}
}

// 10.2: bits that come byte by byte tell the same as all at once; what is dropped is not missed.
func TestGetInPieces(t *testing.T) {
	random := rand.New(rand.NewSource(8))
	for range 100 {
		lengths := someWhole(random, 3+random.Intn(256))
		c, codes := code(t, lengths), plainCodes(lengths)
		row := someBits(random, 800)
		r, s, at := bits.NewReader(""), packed(row), 0
		for i := range len(s) {
			r.More(s[i : i+1])
			for {
				want := plainGet(codes, row[at:8*i+8])
				if want < 0 {
					break
				}
				wantGet(t, c, r, want, lengths[want])
				at += lengths[want]
			}
			wantNoGet(t, c, r, api.ErrShort)
			r.Drop()
		}
	}
}

// 10.3: each row of 20 bits begins with a code.
func TestEachRow(t *testing.T) {
	random := rand.New(rand.NewSource(9))
	for _, lengths := range [][]int{chain(20), someWhole(random, 258)} {
		c := code(t, lengths)
		for row := range uint32(1 << 20) {
			r := bits.NewReader(string([]byte{byte(row >> 16), byte(row >> 8), byte(row)}))
			r.Seek(4)
			symbol, e := c.Get(r)
			v, n, err := c.Of(symbol)
			if e != api.OK || err != api.OK || n != lengths[symbol] || r.At() != 4+n || row>>(20-n) != v {
				t.Fatalf("Get of %020b: %d, %v at %d", row, symbol, e, r.At())
			}
		}
	}
}

// 10.4: what is put is got, with several codes by turns, and nothing more is read.
func TestPutAndGet(t *testing.T) {
	random := rand.New(rand.NewSource(10))
	for range 100 {
		var codes []*canon.Code
		for range 1 + random.Intn(6) {
			codes = append(codes, code(t, someWhole(random, 3+random.Intn(256))))
		}
		var symbols []int
		w := bits.NewWriter()
		for i := range random.Intn(2000) {
			c := codes[i%len(codes)]
			symbol := random.Intn(c.Size())
			if e := c.Put(w, symbol); e != api.OK {
				t.Fatalf("Put(%d): %v", symbol, e)
			}
			symbols = append(symbols, symbol)
		}
		put := w.Len()
		w.Pad()
		r := bits.NewReader(w.Take())
		for i, want := range symbols {
			c := codes[i%len(codes)]
			_, n, _ := c.Of(want)
			wantGet(t, c, r, want, n)
		}
		if r.At() != put {
			t.Fatalf("%d bits were put, and %d got", put, r.At())
		}
	}
}

// 10.2: of nil, and of what New did not make, ahead of all other errors (R1).
func TestPutAndGetNil(t *testing.T) {
	c := code(t, []int{2, 1, 2})
	w, r := bits.NewWriter(), bits.NewReader("\xff\x00")
	w.Put(5, 3)
	r.Seek(3)
	empty := bits.NewReader("")
	for _, symbol := range append(noSymbols(3), 0, 1, 2) {
		wantNoPut(t, c, nil, symbol, api.ErrState)
		for _, none := range []*canon.Code{nil, {}} {
			wantNoPut(t, none, w, symbol, api.ErrState)
			wantNoPut(t, none, nil, symbol, api.ErrState)
		}
	}
	wantNoGet(t, c, nil, api.ErrState)
	for _, none := range []*canon.Code{nil, {}} {
		wantNoGet(t, none, r, api.ErrState)
		wantNoGet(t, none, empty, api.ErrState)
		wantNoGet(t, none, nil, api.ErrState)
	}
	wantNoGet(t, c, empty, api.ErrShort)
}
