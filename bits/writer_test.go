package bits_test

import (
	"math/rand"
	"strings"
	"testing"

	"baler/api"
	"baler/bits"
)

// field is a number, and how many bits it has.
type field struct {
	v uint32
	n int
}

// text is a field as digits 0 and 1.
func (f field) text() string {
	var b strings.Builder
	for i := f.n - 1; i >= 0; i-- {
		b.WriteByte(byte('0' + f.v>>i&1))
	}
	return b.String()
}

// asDigits tells bytes as digits 0 and 1.
func asDigits(s string) string {
	var b strings.Builder
	for i := range len(s) {
		b.WriteString(field{uint32(s[i]), 8}.text())
	}
	return b.String()
}

// someFields are fields of all lengths, always the same ones.
func someFields(seed int64, n int) []field {
	random := rand.New(rand.NewSource(seed))
	l := make([]field, n)
	for i := range l {
		length := random.Intn(33)
		l[i] = field{uint32(uint64(random.Uint32()) >> (32 - length)), length}
	}
	return l
}

// putAll puts fields into a writer.
func putAll(t *testing.T, w *bits.Writer, l []field) {
	t.Helper()
	for _, f := range l {
		if e := w.Put(f.v, f.n); e != api.OK {
			t.Fatalf("Put(%d, %d): %v", f.v, f.n, e)
		}
	}
}

// 1.1: the example of the chapter.
func TestPutExample(t *testing.T) {
	w := bits.NewWriter()
	putAll(t, w, []field{{5, 3}, {1, 2}})
	if w.Len() != 5 || w.Held() != 0 || w.Take() != "" {
		t.Errorf("of 5 bits: Len %d, Held %d", w.Len(), w.Held())
	}
	w.Pad()
	if w.Len() != 8 || w.Held() != 1 {
		t.Errorf("behind Pad: Len %d, Held %d", w.Len(), w.Held())
	}
	if s := w.Take(); s != "\xa8" {
		t.Errorf("Take: %x", s)
	}
}

// 1.1: what no field may be is refused, and changes nothing.
func TestPutWrong(t *testing.T) {
	w := bits.NewWriter()
	putAll(t, w, []field{{1, 1}})
	for _, f := range []field{
		{0, -1}, {0, -64}, {0, -1 << 63}, {0, 33}, {1, 40}, {0, 64}, {0, 1<<63 - 1}, {1, 0}, {1<<32 - 1, 0},
		{2, 1}, {1 << 8, 8}, {1 << 31, 31}, {1<<32 - 1, 31},
	} {
		if e := w.Put(f.v, f.n); e != api.ErrArg {
			t.Errorf("Put(%d, %d): %v", f.v, f.n, e)
		}
		if w.Len() != 1 || w.Held() != 0 {
			t.Errorf("behind Put(%d, %d): Len %d, Held %d", f.v, f.n, w.Len(), w.Held())
		}
	}
	w.Pad()
	if s := w.Take(); s != "\x80" {
		t.Errorf("Take: %x", s)
	}
}

// 1.1: fields of 0 and of 32 bits, at each place within a byte.
func TestPutEdges(t *testing.T) {
	for ahead := range 8 {
		for _, v := range []uint32{0, 1, 0x80000000, 0x12345678, 1<<32 - 1} {
			w := bits.NewWriter()
			l := []field{{0, 0}, {1<<ahead - 1, ahead}, {0, 0}, {v, 32}, {0, 0}}
			putAll(t, w, l)
			if w.Len() != ahead+32 || w.Held() != 4 {
				t.Errorf("%d bits ahead of 32: Len %d, Held %d", ahead, w.Len(), w.Held())
			}
			w.Pad()
			want := strings.Repeat("1", ahead) + field{v, 32}.text()
			want += strings.Repeat("0", -len(want)&7)
			if got := asDigits(w.Take()); got != want {
				t.Errorf("%d bits ahead of %x: %s", ahead, v, got)
			}
		}
	}
}

// 1.1: Pad puts as many bits as lack, and none to whole bytes.
func TestPad(t *testing.T) {
	for n := range 33 {
		w := bits.NewWriter()
		putAll(t, w, []field{{uint32(1<<n - 1), n}})
		for range 2 {
			w.Pad()
			if want := (n + 7) / 8; w.Len() != 8*want || w.Held() != want {
				t.Errorf("Pad of %d bits: Len %d, Held %d", n, w.Len(), w.Held())
			}
		}
		want := strings.Repeat("1", n) + strings.Repeat("0", -n&7)
		if got := asDigits(w.Take()); got != want {
			t.Errorf("Pad of %d bits: %s", n, got)
		}
	}
}

// 1.1: taken bytes are gone, but Len counts them still; bits that are no whole byte wait.
func TestTake(t *testing.T) {
	w := bits.NewWriter()
	if w.Len() != 0 || w.Held() != 0 || w.Take() != "" {
		t.Error("a new writer has bits")
	}
	putAll(t, w, []field{{0xabcd, 16}, {5, 3}})
	if s := w.Take(); s != "\xab\xcd" || w.Held() != 0 || w.Len() != 19 {
		t.Errorf("Take: %x, Held %d, Len %d", s, w.Held(), w.Len())
	}
	if s := w.Take(); s != "" || w.Len() != 19 {
		t.Errorf("Take once more: %x, Len %d", s, w.Len())
	}
	putAll(t, w, []field{{0x11, 5}})
	if s := w.Take(); s != "\xb1" || w.Len() != 24 {
		t.Errorf("Take of the rest: %x, Len %d", s, w.Len())
	}
}

// 1.1, R1: of nil.
func TestNoWriter(t *testing.T) {
	var w *bits.Writer
	for _, f := range []field{{1, 1}, {0, 0}, {2, 1}, {0, 33}, {0, -1}} {
		if e := w.Put(f.v, f.n); e != api.ErrState {
			t.Errorf("Put(%d, %d) of nil: %v", f.v, f.n, e)
		}
	}
	w.Pad()
	if w.Len() != 0 || w.Held() != 0 || w.Take() != "" {
		t.Error("nil has bits")
	}
}

// 1.1: bits stand one behind the other, whatever is taken meanwhile. 1.6: taken pieces are all bytes.
func TestPieces(t *testing.T) {
	random := rand.New(rand.NewSource(6))
	for seed := range int64(50) {
		w, one := bits.NewWriter(), bits.NewWriter()
		var digits, pieces string
		for _, f := range someFields(seed, 60) {
			putAll(t, w, []field{f})
			putAll(t, one, []field{f})
			digits += f.text()
			if random.Intn(3) == 0 {
				pieces += w.Take()
			}
			if held := len(digits)/8 - len(pieces); w.Held() != held || w.Len() != len(digits) {
				t.Fatalf("Held %d, Len %d of %d bits", w.Held(), w.Len(), len(digits))
			}
		}
		w.Pad()
		one.Pad()
		pieces += w.Take()
		if digits += strings.Repeat("0", -len(digits)&7); asDigits(pieces) != digits {
			t.Errorf("seed %d: %x", seed, pieces)
		}
		if whole := one.Take(); whole != pieces {
			t.Errorf("seed %d: taken at once %x, in pieces %x", seed, whole, pieces)
		}
	}
}

// R6: two writers don't share bits, and the same calls tell the same.
func TestTwoWriters(t *testing.T) {
	a, b := bits.NewWriter(), bits.NewWriter()
	putAll(t, a, []field{{0xaa, 8}})
	if b.Len() != 0 || b.Held() != 0 {
		t.Error("bits of one writer are in another one")
	}
	putAll(t, b, []field{{0xaa, 8}})
	if x, y := a.Take(), b.Take(); x != y {
		t.Errorf("%x and %x", x, y)
	}
}

// The bound: more bits than a number of 32 bits counts.
func TestManyBitsPut(t *testing.T) {
	const rounds, fields = 1<<15 + 1, 1 << 12
	w := bits.NewWriter()
	for range rounds {
		for range fields {
			w.Put(0xdeadbeef, 32)
		}
		if s := w.Take(); len(s) != 4*fields {
			t.Fatalf("Take: %d bytes", len(s))
		}
	}
	if w.Len() != 32*fields*rounds {
		t.Errorf("Len: %d", w.Len())
	}
}
