package used_test

import (
	"math/rand"
	"strings"
	"testing"

	"baler/api"
	"baler/bits"
	"baler/used"
)

// shown are symbols as bits, as the chapter tells them, one letter each.
func shown(symbols string) string {
	first, rest := "", ""
	for i := range 16 {
		row := ""
		for b := 16 * i; b < 16*i+16; b++ {
			if strings.Contains(symbols, one(b)) {
				row += "1"
			} else {
				row += "0"
			}
		}
		if strings.Contains(row, "1") {
			first, rest = first+"1", rest+row
		} else {
			first += "0"
		}
	}
	return first + rest
}

// packed are bits as bytes, with bits 0 behind them up to a whole one.
func packed(letters string) string {
	letters += strings.Repeat("0", (8-len(letters)%8)%8)
	s := make([]byte, len(letters)/8)
	for i := range letters {
		s[i/8] = s[i/8]<<1 | letters[i]&1
	}
	return string(s)
}

// wantWrite fails unless Write tells this.
func wantWrite(t *testing.T, w *bits.Writer, symbols string, want api.Errno) {
	t.Helper()
	if e := used.Write(w, symbols); e != want {
		t.Fatalf("Write(%.80q) of %d: %v, not %v", symbols, len(symbols), e, want)
	}
}

// wantRead fails unless Read tells this, and the place is behind so many bits.
func wantRead(t *testing.T, r *bits.Reader, want string, err api.Errno, at int) {
	t.Helper()
	if s, e := used.Read(r); s != want || e != err {
		t.Fatalf("Read: %q, %v, not %q, %v", s, e, want, err)
	}
	if r.At() != at {
		t.Fatalf("Read of %q: the place is %d, not %d", want, r.At(), at)
	}
}

// written are symbols as bytes.
func written(t *testing.T, symbols string) string {
	t.Helper()
	w := bits.NewWriter()
	wantWrite(t, w, symbols, api.OK)
	n, e := used.Bits(symbols)
	if e != api.OK || w.Len() != n {
		t.Fatalf("Write(%q): %d bits, and Bits tell %d, %v", symbols, w.Len(), n, e)
	}
	return w.Take()
}

// 5.2: the document's example, and others by hand.
func TestWrite(t *testing.T) {
	for symbols, want := range map[string]string{
		"a": "\x02\x00\x40\x00", "\x00": "\x80\x00\x80\x00", "\xff": "\x00\x01\x00\x01", "\x0f": "\x80\x00\x00\x01", "\xf0": "\x00\x01\x80\x00",
		"\x00\x0f\xff": "\x80\x01\x80\x01\x00\x01", "\x7f\x80": "\x01\x80\x00\x01\x80\x00", "abn": "\x02\x00\x60\x02",
		"\x10\x11\x12": "\x40\x00\xe0\x00", whole(): strings.Repeat("\xff", 34), whole()[16:32]: "\x40\x00\xff\xff",
	} {
		if s := written(t, symbols); s != want {
			t.Fatalf("Write(%q): %x, not %x", symbols, s, want)
		}
	}
}

// 5.1, 5.2: many rows of symbols, as bits; also each byte alone, and all but it.
func TestWriteMany(t *testing.T) {
	random := rand.New(rand.NewSource(4))
	rows := []string{whole()}
	for b := range 256 {
		rows = append(rows, one(b), strings.Replace(whole(), one(b), "", 1))
	}
	for range 1000 {
		rows = append(rows, someRow(random))
	}
	for _, symbols := range rows {
		if s, want := written(t, symbols), packed(shown(symbols)); s != want {
			t.Fatalf("Write(%q): %x, not %x", symbols, s, want)
		}
	}
}

// 5.2: the bits stand behind those of the writer, wherever it is, and some of its bytes may have been taken.
func TestWriteBehind(t *testing.T) {
	random := rand.New(rand.NewSource(5))
	for ahead := range 33 {
		symbols, next := someRow(random), someRow(random)
		w := bits.NewWriter()
		w.Put(1<<ahead-1, ahead)
		taken := w.Take()
		wantWrite(t, w, symbols, api.OK)
		wantWrite(t, w, next, api.OK)
		all := strings.Repeat("1", ahead) + shown(symbols) + shown(next)
		if w.Len() != len(all) {
			t.Fatalf("%d ahead: %d bits, not %d", ahead, w.Len(), len(all))
		}
		w.Pad()
		if s := taken + w.Take(); s != packed(all) {
			t.Fatalf("%d ahead: %x, not %x", ahead, s, packed(all))
		}
	}
}

// 5.2: of a text that is no row of symbols nothing is written; a nil writer is told first (R1, R4).
func TestWriteErrors(t *testing.T) {
	w := bits.NewWriter()
	w.Put(5, 11)
	for _, s := range noRows() {
		wantWrite(t, nil, s, api.ErrState)
		wantWrite(t, w, s, api.ErrArg)
		if w.Len() != 11 || w.Held() != 1 {
			t.Fatalf("Write(%.80q) wrote: %d bits, %d bytes", s, w.Len(), w.Held())
		}
	}
	wantWrite(t, nil, "a", api.ErrState)
	wantWrite(t, nil, whole(), api.ErrState)
	wantWrite(t, w, "a", api.OK)
	w.Pad()
	if s, want := w.Take(), packed("00000000101"+shown("a")); s != want {
		t.Fatalf("behind errors: %x, not %x", s, want)
	}
}

// 5.2: a reader's symbols, and its place behind their bits; also where sixteens that are told have no byte.
func TestRead(t *testing.T) {
	for s, want := range map[string]string{
		"\x02\x00\x40\x00": "a", "\x80\x01\x80\x01\x00\x01": "\x00\x0f\xff", "\x00\x01\x00\x01": "\xff", "\x80\x00\x80\x00": "\x00",
		"\x40\x01\x00\x00\x00\x01": "\xff", "\x40\x01\x80\x00\x00\x00": "\x10", "\xe0\x00\x00\x00\x00\x00\x01\x00": "\x27",
		"\xe0\x00\x01\x00\x00\x00\x00\x00": "\x07", "\xe0\x00\x00\x00\x10\x00\x00\x00": "\x13",
		"\xff\xff" + strings.Repeat("\x00\x00", 15) + "\x00\x01": "\xff", "\xff\xff" + strings.Repeat("\xff", 32): whole(),
		"\xff\xff" + strings.Repeat("\x00\x01", 16): "\x0f\x1f/?O_o\x7f\x8f\x9f\xaf\xbf\xcf\xdf\xef\xff",
	} {
		wantRead(t, bits.NewReader(s), want, api.OK, 8*len(s))
		wantRead(t, bits.NewReader(s+"x"), want, api.OK, 8*len(s))
		wantRead(t, bits.NewReader(s+"\xff\xff\xff\xff"), want, api.OK, 8*len(s))
	}
}

// 5.2: too few bits, at each length; the place stays, and when the rest has come, the symbols are read.
func TestReadShort(t *testing.T) {
	random := rand.New(rand.NewSource(6))
	rows := []string{"a", "\x00", "\xff", "\x00\xff", whole()}
	for range 100 {
		rows = append(rows, someRow(random))
	}
	for _, symbols := range rows {
		s := written(t, symbols)
		for n := range s {
			r := bits.NewReader(s[:n])
			wantRead(t, r, "", api.ErrShort, 0)
			wantRead(t, r, "", api.ErrShort, 0)
			r.More(s[n:])
			wantRead(t, r, symbols, api.OK, 8*len(s))
			wantRead(t, r, "", api.ErrShort, 8*len(s))
		}
	}
}

// 5.2: no byte, of each sixteen that is told, and of many; too few bits are told first (R1).
func TestReadNone(t *testing.T) {
	random := rand.New(rand.NewSource(7))
	fields := []int{0, 0xffff, 1, 0x8000, 0x8001, 0x4000, 0x5555}
	for i := range 16 {
		fields = append(fields, 1<<i, 0xffff^1<<i, random.Intn(1<<16))
	}
	for _, field := range fields {
		first := string([]byte{byte(field >> 8), byte(field)})
		empty := strings.Repeat("\x00\x00", strings.Count(shownField(field), "1"))
		wantRead(t, bits.NewReader(first+empty), "", api.ErrData, 0)
		wantRead(t, bits.NewReader(first+empty+"\xff\xff\xff"), "", api.ErrData, 0)
		for n := range empty {
			wantRead(t, bits.NewReader(first+empty[:n]), "", api.ErrShort, 0)
		}
	}
}

// shownField are the 16 bits of a number, one letter each.
func shownField(v int) string {
	s := ""
	for i := range 16 {
		s += one('0' + v>>(15-i)&1)
	}
	return s
}

// 5.2: beside each error the place is where it was, behind bits of any number, some of whose bytes were dropped.
func TestReadKeepsPlace(t *testing.T) {
	for _, c := range []struct {
		letters string
		err     api.Errno
	}{
		{"", api.ErrShort}, {"0000000000000", api.ErrShort}, {"1000000000000001" + "1000000000000000", api.ErrShort},
		{"1100000000000000" + "0000000000000000", api.ErrShort}, {strings.Repeat("0", 16), api.ErrData},
		{"0100000000000010" + strings.Repeat("0", 32), api.ErrData}, {strings.Repeat("1", 16) + strings.Repeat("0", 256), api.ErrData},
	} {
		for ahead := range 33 {
			// Bits up to a whole byte may not make up for those that lack.
			if c.err == api.ErrShort && (ahead+len(c.letters))%8 != 0 {
				continue
			}
			for _, drop := range []bool{false, true} {
				r := bits.NewReader(packed(strings.Repeat("1", ahead) + c.letters))
				r.Get(ahead)
				if drop {
					r.Drop()
				}
				left, held := r.Left(), r.Held()
				wantRead(t, r, "", c.err, ahead)
				wantRead(t, r, "", c.err, ahead)
				if r.Left() != left || r.Held() != held {
					t.Fatalf("%d ahead of %q: the reader is another one", ahead, c.letters)
				}
			}
		}
	}
}

// 5.2: a nil reader.
func TestReadNil(t *testing.T) {
	for range 2 {
		if s, e := used.Read(nil); s != "" || e != api.ErrState {
			t.Fatalf("Read(nil): %q, %v", s, e)
		}
	}
}

// 5.3: what was written is read, one behind another, and nothing more than that.
func TestThereAndBack(t *testing.T) {
	random := rand.New(rand.NewSource(8))
	for range 100 {
		w := bits.NewWriter()
		var rows []string
		for range 1 + random.Intn(20) {
			symbols := someRow(random)
			rows = append(rows, symbols)
			wantWrite(t, w, symbols, api.OK)
			w.Put(1, 1+len(symbols)%9) // so that the next one begins anywhere
		}
		w.Pad()
		r := bits.NewReader(w.Take())
		for _, symbols := range rows {
			n, _ := used.Bits(symbols)
			wantRead(t, r, symbols, api.OK, r.At()+n)
			if v, e := r.Get(1 + len(symbols)%9); v != 1 || e != api.OK {
				t.Fatalf("behind %q: %d, %v", symbols, v, e)
			}
		}
	}
}

// 5.3: each byte alone, all but it, and what is read is written as it was.
func TestEachThereAndBack(t *testing.T) {
	rows := []string{whole()}
	for b := range 256 {
		rows = append(rows, one(b), strings.Replace(whole(), one(b), "", 1), whole()[b:], whole()[:b+1])
	}
	for _, symbols := range rows {
		s := written(t, symbols)
		wantRead(t, bits.NewReader(s), symbols, api.OK, 8*len(s))
		wantRead(t, bits.NewReader(s+s), symbols, api.OK, 8*len(s))
	}
}

// 5.2: any bits: an error that leaves the place, or symbols as the chapter tells them.
func TestReadAny(t *testing.T) {
	random := rand.New(rand.NewSource(9))
	for range 20000 {
		s := make([]byte, random.Intn(20))
		for i := range s {
			s[i] = byte(random.Intn(256) & random.Intn(256) & random.Intn(256) & random.Intn(256))
		}
		want, e, at := plainRead(s)
		wantRead(t, bits.NewReader(string(s)), want, e, at)
	}
}

// plainRead is what Read tells of bytes, and its place, as the chapter tells it.
func plainRead(s []byte) (string, api.Errno, int) {
	letters := ""
	for _, b := range s {
		letters += shownField(int(b))[8:]
	}
	if len(letters) < 16 || len(letters) < 16+16*strings.Count(letters[:16], "1") {
		return "", api.ErrShort, 0
	}
	symbols, rest := "", letters[16:]
	for i := range 16 {
		if letters[i] == '0' {
			continue
		}
		for j := range 16 {
			if rest[j] == '1' {
				symbols += one(16*i + j)
			}
		}
		rest = rest[16:]
	}
	if symbols == "" {
		return "", api.ErrData, 0
	}
	return symbols, api.OK, len(letters) - len(rest)
}
