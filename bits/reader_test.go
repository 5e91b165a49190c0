package bits_test

import (
	"math/rand"
	"strings"
	"testing"

	"baler/api"
	"baler/bits"
)

// wantGet gets a field, and fails if it is another one.
func wantGet(t *testing.T, r *bits.Reader, want field) {
	t.Helper()
	at, left := r.At(), r.Left()
	if v, e := r.Get(want.n); v != want.v || e != api.OK {
		t.Fatalf("Get(%d): %x, %v, not %x", want.n, v, e, want.v)
	}
	if r.At() != at+want.n || r.Left() != left-want.n {
		t.Fatalf("behind Get(%d): At %d, Left %d", want.n, r.At(), r.Left())
	}
}

// wantNoGet fails unless Get tells an error, no bits, and leaves the place.
func wantNoGet(t *testing.T, r *bits.Reader, n int, want api.Errno) {
	t.Helper()
	at, left, held := r.At(), r.Left(), r.Held()
	if v, e := r.Get(n); v != 0 || e != want {
		t.Errorf("Get(%d): %x, %v, not %v", n, v, e, want)
	}
	if r.At() != at || r.Left() != left || r.Held() != held {
		t.Errorf("behind Get(%d): At %d, Left %d, Held %d", n, r.At(), r.Left(), r.Held())
	}
}

// wantPlace fails unless the reader stands there.
func wantPlace(t *testing.T, r *bits.Reader, at, left, held int) {
	t.Helper()
	if r.At() != at || r.Left() != left || r.Held() != held {
		t.Errorf("At %d, Left %d, Held %d, not %d, %d, %d", r.At(), r.Left(), r.Held(), at, left, held)
	}
}

// wantSeek fails unless Seek tells this; beside an error the place must stay.
func wantSeek(t *testing.T, r *bits.Reader, at int, want api.Errno) {
	t.Helper()
	place := r.At()
	if e := r.Seek(at); e != want {
		t.Errorf("Seek(%d): %v, not %v", at, e, want)
	}
	if want == api.OK {
		place = at
	}
	if r.At() != place {
		t.Errorf("behind Seek(%d): At %d", at, r.At())
	}
}

// 1.2: fields from the highest bit on, of all bytes (R5).
func TestGet(t *testing.T) {
	r := bits.NewReader("\xa8\x00\xff\xc3\x28")
	wantPlace(t, r, 0, 40, 5)
	for _, f := range []field{{5, 3}, {1, 2}, {0, 0}, {0, 10}, {1, 2}, {0x7f, 7}, {0, 0}, {0x30ca, 14}, {0, 2}, {0, 0}} {
		wantGet(t, r, f)
	}
	wantPlace(t, r, 40, 0, 5)
}

// 1.2: fields of 0 and of 32 bits, at each place within a byte.
func TestGetEdges(t *testing.T) {
	for ahead := range 8 {
		for _, v := range []uint32{0, 1, 0x80000000, 0x12345678, 1<<32 - 1} {
			w := bits.NewWriter()
			putAll(t, w, []field{{uint32(1<<ahead - 1), ahead}, {v, 32}})
			w.Pad()
			r := bits.NewReader(w.Take())
			for _, f := range []field{{0, 0}, {uint32(1<<ahead - 1), ahead}, {0, 0}, {v, 32}, {0, 0}} {
				wantGet(t, r, f)
			}
		}
	}
}

// 1.2: wrong lengths, and the end of the bytes; the wrong length is told first (R1).
func TestGetWrong(t *testing.T) {
	r := bits.NewReader("\xff\x80")
	wrong := []int{-1, -8, -1 << 63, 33, 64, 1<<63 - 1}
	for _, n := range wrong {
		wantNoGet(t, r, n, api.ErrArg)
	}
	wantNoGet(t, r, 17, api.ErrShort)
	wantNoGet(t, r, 32, api.ErrShort)
	wantGet(t, r, field{0x7f, 7})
	wantNoGet(t, r, 10, api.ErrShort)
	wantGet(t, r, field{0x180, 9})
	wantGet(t, r, field{0, 0})
	wantNoGet(t, r, 1, api.ErrShort)
	for _, n := range wrong {
		wantNoGet(t, r, n, api.ErrArg)
	}
	empty := bits.NewReader("")
	wantPlace(t, empty, 0, 0, 0)
	wantGet(t, empty, field{0, 0})
	wantNoGet(t, empty, 1, api.ErrShort)
}

// 1.2: more bytes stand behind all, and what was too short goes on.
func TestMore(t *testing.T) {
	r := bits.NewReader("\x12")
	wantGet(t, r, field{1, 4})
	wantNoGet(t, r, 12, api.ErrShort)
	for _, s := range []string{"", "\x34", "\x56\x78"} {
		if e := r.More(s); e != api.OK {
			t.Errorf("More: %v", e)
		}
	}
	wantPlace(t, r, 4, 28, 4)
	wantGet(t, r, field{0x234, 12})
	wantGet(t, r, field{0x5678, 16})
	wantNoGet(t, r, 1, api.ErrShort)
	if e := r.More("\x9a"); e != api.OK {
		t.Errorf("More: %v", e)
	}
	wantGet(t, r, field{0x9a, 8})
	wantPlace(t, r, 40, 0, 5)
}

// 1.3: places from the first bit to the end, both there; others change nothing.
func TestSeek(t *testing.T) {
	r := bits.NewReader("\x12\x34")
	wantSeek(t, r, 16, api.OK)
	wantNoGet(t, r, 1, api.ErrShort)
	wantSeek(t, r, 17, api.ErrArg)
	wantSeek(t, r, 5, api.OK)
	wantPlace(t, r, 5, 11, 2)
	wantSeek(t, r, -1, api.ErrArg)
	wantSeek(t, r, -1<<63, api.ErrArg)
	wantSeek(t, r, 1<<63-1, api.ErrArg)
	wantGet(t, r, field{0x23, 7})
	wantSeek(t, r, 0, api.OK)
	wantGet(t, r, field{0x1234, 16})
	r.More("\x56")
	wantSeek(t, r, 24, api.OK)
	wantSeek(t, r, 25, api.ErrArg)
	empty := bits.NewReader("")
	wantSeek(t, empty, 0, api.OK)
	wantSeek(t, empty, 1, api.ErrArg)
}

// 1.3: Align goes to the next whole byte, and stays where one begins, and at the end.
func TestAlign(t *testing.T) {
	r := bits.NewReader("\x12\x34\x56")
	for at := range 25 {
		wantSeek(t, r, at, api.OK)
		want := (at + 7) / 8 * 8
		for range 2 {
			r.Align()
			wantPlace(t, r, want, 24-want, 3)
		}
	}
	empty := bits.NewReader("")
	empty.Align()
	wantPlace(t, empty, 0, 0, 0)
	wantSeek(t, r, 13, api.OK)
	if n := r.Drop(); n != 1 {
		t.Errorf("Drop: %d", n)
	}
	r.Align()
	wantPlace(t, r, 16, 8, 2)
	wantGet(t, r, field{0x56, 8})
}

// 1.3: whole bytes ahead of the place are forgotten, and counted still.
func TestDrop(t *testing.T) {
	r := bits.NewReader("\x12\x34\x56\x78")
	for _, c := range []struct{ to, dropped, held int }{
		{0, 0, 4}, {7, 0, 4}, {8, 1, 3}, {8, 0, 3}, {15, 0, 3}, {25, 2, 1}, {31, 0, 1}, {32, 1, 0}, {32, 0, 0},
	} {
		wantSeek(t, r, c.to, api.OK)
		if n := r.Drop(); n != c.dropped {
			t.Errorf("Drop at %d: %d", c.to, n)
		}
		wantPlace(t, r, c.to, 32-c.to, c.held)
	}
	wantNoGet(t, r, 1, api.ErrShort)
	r.More("\x9a\xbc")
	wantPlace(t, r, 32, 16, 2)
	wantGet(t, r, field{0x9ab, 12})
	if n := r.Drop(); n != 1 {
		t.Errorf("Drop at 44: %d", n)
	}
	wantGet(t, r, field{0xc, 4})
}

// 1.3: a place ahead of what was dropped may not be sought; the first bit that was not may.
func TestSeekDropped(t *testing.T) {
	r := bits.NewReader("\x12\x34\x56\x78")
	wantSeek(t, r, 20, api.OK)
	if n := r.Drop(); n != 2 {
		t.Errorf("Drop: %d", n)
	}
	for _, at := range []int{15, 8, 1, 0, -1} {
		wantSeek(t, r, at, api.ErrArg)
	}
	wantSeek(t, r, 16, api.OK)
	wantPlace(t, r, 16, 16, 2)
	wantGet(t, r, field{0x5678, 16})
	wantSeek(t, r, 32, api.OK)
	wantSeek(t, r, 33, api.ErrArg)
}

// 1.2, 1.3, R1: of nil.
func TestNoReader(t *testing.T) {
	var r *bits.Reader
	for _, n := range []int{0, 1, 33, -1} {
		if v, e := r.Get(n); v != 0 || e != api.ErrState {
			t.Errorf("Get(%d) of nil: %d, %v", n, v, e)
		}
		if e := r.Seek(n); e != api.ErrState {
			t.Errorf("Seek(%d) of nil: %v", n, e)
		}
	}
	for _, s := range []string{"", "a"} {
		if e := r.More(s); e != api.ErrState {
			t.Errorf("More of nil: %v", e)
		}
	}
	r.Align()
	if n := r.Drop(); n != 0 {
		t.Errorf("Drop of nil: %d", n)
	}
	wantPlace(t, r, 0, 0, 0)
}

// 1.4: what is put field by field is got field by field.
func TestRoundTrip(t *testing.T) {
	for seed := range int64(50) {
		l := someFields(seed, 100)
		w := bits.NewWriter()
		putAll(t, w, l)
		n := w.Len()
		w.Pad()
		r := bits.NewReader(w.Take())
		for _, f := range l {
			wantGet(t, r, f)
		}
		if r.At() != n || r.Left() >= 8 {
			t.Errorf("seed %d: At %d, Left %d of %d bits", seed, r.At(), r.Left(), n)
		}
	}
}

// 1.5: a reader that gets its bytes in pieces, and drops some, tells the same as one that has them at once.
func TestReaderInPieces(t *testing.T) {
	random := rand.New(rand.NewSource(5))
	for range 200 {
		s := make([]byte, 40)
		random.Read(s)
		whole, digits := bits.NewReader(string(s)), asDigits(string(s))
		cut := bits.NewReader(string(s[:1]))
		came, dropped := 1, 0
		for range 300 {
			switch k := min(random.Intn(5), len(s)-came); random.Intn(6) {
			case 0:
				cut.More(string(s[came : came+k]))
				came += k
			case 1:
				n := cut.Drop()
				if dropped += n; dropped != cut.At()/8 {
					t.Fatalf("Drop at %d: %d, %d in all", cut.At(), n, dropped)
				}
			case 2:
				at := random.Intn(8*came + 1)
				want := api.OK
				if at < 8*dropped {
					want, at = api.ErrArg, at-at%8
				}
				wantSeek(t, cut, at, want)
			case 3:
				cut.Align()
			default:
				getBoth(t, whole, cut, random.Intn(33), digits)
			}
			wantPlace(t, cut, cut.At(), 8*came-cut.At(), came-dropped)
		}
	}
}

// getBoth gets a field of both readers, which must be the same as far as the bytes have come.
func getBoth(t *testing.T, whole, cut *bits.Reader, n int, digits string) {
	t.Helper()
	if n > cut.Left() {
		wantNoGet(t, cut, n, api.ErrShort)
		return
	}
	at := cut.At()
	wantSeek(t, whole, at, api.OK)
	v, e := whole.Get(n)
	if e != api.OK || (field{v, n}).text() != digits[at:at+n] {
		t.Fatalf("Get(%d) at %d: %x, %v", n, at, v, e)
	}
	wantGet(t, cut, field{v, n})
}

// R3: two readers of one text don't share a place, or bytes that come.
func TestTwoReaders(t *testing.T) {
	s := strings.Repeat("ab", 20)
	a, b := bits.NewReader(s), bits.NewReader(s)
	wantGet(t, a, field{'a', 8})
	a.Drop()
	a.More("x")
	b.More("y")
	wantPlace(t, b, 0, 328, 41)
	wantSeek(t, a, 320, api.OK)
	wantSeek(t, b, 320, api.OK)
	wantGet(t, a, field{'x', 8})
	wantGet(t, b, field{'y', 8})
}

// The bound: more bits than a number of 32 bits counts.
func TestManyBitsGot(t *testing.T) {
	const size = 1 << 25
	piece := strings.Repeat("\x5a", size)
	r := bits.NewReader("")
	for i := range 17 {
		r.More(piece)
		wantSeek(t, r, 8*size*(i+1)-4, api.OK)
		if r.Drop(); r.Held() != 1 {
			t.Fatalf("Held: %d", r.Held())
		}
	}
	wantPlace(t, r, 8*size*17-4, 4, 1)
	wantGet(t, r, field{0xa, 4})
	wantSeek(t, r, 8*size*17-8, api.OK)
	wantSeek(t, r, 8*size*17-9, api.ErrArg)
}
