package crc_test

import (
	"math/rand"
	"strings"
	"testing"

	"baler/api"
	"baler/crc"
)

// slow is the sum of bytes as the chapter tells it, without a table.
func slow(s string) uint32 {
	n := ^uint32(0)
	for i := range len(s) {
		n = eight(n ^ uint32(s[i])<<24)
	}
	return ^n
}

// eight shifts a number up eight times.
func eight(n uint32) uint32 {
	for range 8 {
		if n>>31 == 1 {
			n = n<<1 ^ 0x04c11db7
		} else {
			n <<= 1
		}
	}
	return n
}

// someBytes are bytes, always the same ones.
func someBytes(random *rand.Rand, n int) []byte {
	s := make([]byte, n)
	random.Read(s)
	return s
}

// 2.1: what the eight steps make of each byte.
func TestTable(t *testing.T) {
	table := crc.Table()
	for i, n := range table {
		if want := eight(uint32(i) << 24); n != want {
			t.Errorf("Table of %d: %x, not %x", i, n, want)
		}
	}
	for i, want := range map[int]uint32{0: 0, 1: 0x04c11db7, 2: 0x09823b6e, 255: 0xb1f740b4} {
		if table[i] != want {
			t.Errorf("Table of %d: %x, not %x", i, table[i], want)
		}
	}
}

// 2.1: one byte of a sum, ahead of the last turning; the table stays as it was (R3).
func TestStep(t *testing.T) {
	table := crc.Table()
	for b := range 256 {
		for _, sum := range []uint32{0, 1, 0xff, 0xff000000, 0x80000000, 0x12345678, 1<<32 - 1} {
			n, e := crc.Step(&table, sum, byte(b))
			if want := eight(sum ^ uint32(b)<<24); n != want || e != api.OK {
				t.Errorf("Step(%x, %x): %x, %v, not %x", sum, b, n, e, want)
			}
		}
	}
	if table != crc.Table() {
		t.Error("Step changed its table")
	}
}

// 2.1: Step takes what the table that is handed in has.
func TestStepOtherTable(t *testing.T) {
	var table [256]uint32
	if n, e := crc.Step(&table, 0x12345678, 9); n != 0x34567800 || e != api.OK {
		t.Errorf("Step by a table of 0: %x, %v", n, e)
	}
	table[0x12^9] = 0xff00ff
	if n, e := crc.Step(&table, 0x12345678, 9); n != 0x34a978ff || e != api.OK {
		t.Errorf("Step by another table: %x, %v", n, e)
	}
}

// 2.1: a nil table.
func TestStepNoTable(t *testing.T) {
	for _, sum := range []uint32{0, 5, 1<<32 - 1} {
		if n, e := crc.Step(nil, sum, 7); n != 0 || e != api.ErrState {
			t.Errorf("Step(nil, %x): %x, %v", sum, n, e)
		}
	}
}

// 2.1: sums that are known.
func TestOfKnown(t *testing.T) {
	for s, want := range map[string]uint32{
		"": 0, "123456789": 0xfc891918, "a": 0x19939b6b, "hello": 0x1931653d, "\x00": 0xb1f7404b, "\xff": 0xff,
		strings.Repeat("\x00", 32): 0xb5aa5098, strings.Repeat("\xff", 4): 0xffffffff,
	} {
		if n := crc.Of(s); n != want || slow(s) != want {
			t.Errorf("Of(%q): %x, not %x", s, n, want)
		}
	}
}

// 2.1: of all bytes (R5), and of texts that are no runes; the same call tells the same (R6).
func TestOf(t *testing.T) {
	random := rand.New(rand.NewSource(1))
	texts := []string{"\xff\xfe\xc3\x28", "\xe4\xbd\xa0", "\x80", "\xed\xa0\x80", strings.Repeat("x", 1000)}
	for b := range 256 {
		texts = append(texts, string([]byte{byte(b)}))
	}
	for n := range 60 {
		texts = append(texts, string(someBytes(random, 7*n)))
	}
	for _, s := range texts {
		want := slow(s)
		for range 2 {
			if n := crc.Of(s); n != want {
				t.Errorf("Of(%q): %x, not %x", s, n, want)
			}
		}
	}
}

// 2.1: Of is the steps of all bytes, from all ones on, and turned at the end.
func TestOfSteps(t *testing.T) {
	table := crc.Table()
	s := string(someBytes(rand.New(rand.NewSource(2)), 300))
	n := ^uint32(0)
	for i := range len(s) {
		n, _ = crc.Step(&table, n, s[i])
	}
	if crc.Of(s) != ^n {
		t.Errorf("%x, not %x", crc.Of(s), ^n)
	}
}

// 2.2: a sum is turned up by one bit, and the one that goes out comes in below.
func TestCombine(t *testing.T) {
	for _, c := range []struct{ total, block, want uint32 }{
		{0, 0, 0}, {0, 0x12345678, 0x12345678}, {1, 0, 2}, {0x80000000, 0, 1}, {0x40000000, 0, 0x80000000},
		{0xc0000000, 5, 0x80000004}, {1<<32 - 1, 0, 1<<32 - 1}, {1<<32 - 1, 1<<32 - 1, 0}, {0x12345678, 0xff, 0x2468ac0f},
	} {
		if n := crc.Combine(c.total, c.block); n != c.want {
			t.Errorf("Combine(%x, %x): %x, not %x", c.total, c.block, n, c.want)
		}
	}
}

// 2.2: a stream's sum, in order; of no blocks it is 0, nil or empty (R2); the sums stay (R3).
func TestStream(t *testing.T) {
	for _, c := range []struct {
		blocks []uint32
		want   uint32
	}{
		{nil, 0}, {[]uint32{}, 0}, {[]uint32{0}, 0}, {[]uint32{0xfc891918}, 0xfc891918},
		{[]uint32{1, 2, 4}, 4}, {[]uint32{4, 2, 1}, 21}, {[]uint32{3, 1}, 7}, {[]uint32{1, 3}, 1},
		{[]uint32{0x80000000, 0}, 1}, {[]uint32{0x80000001, 0xf0000000, 0}, 0xe0000007},
	} {
		kept := append([]uint32(nil), c.blocks...)
		if n := crc.Stream(c.blocks); n != c.want {
			t.Errorf("Stream(%x): %x, not %x", c.blocks, n, c.want)
		}
		for i := range kept {
			if kept[i] != c.blocks[i] {
				t.Errorf("Stream changed %x to %x", kept, c.blocks)
			}
		}
	}
}

// 2.2: Stream is Combine of all, one by one.
func TestStreamCombined(t *testing.T) {
	random := rand.New(rand.NewSource(3))
	var blocks []uint32
	var total uint32
	for range 100 {
		blocks = append(blocks, random.Uint32())
		total = crc.Combine(total, blocks[len(blocks)-1])
		if n := crc.Stream(blocks); n != total {
			t.Fatalf("Stream of %d: %x, not %x", len(blocks), n, total)
		}
	}
}

// 2.3: bytes that are put, one or several at a time, are those of the sum at each time.
func TestSum(t *testing.T) {
	random := rand.New(rand.NewSource(4))
	s := crc.New()
	if s.Value() != 0 {
		t.Errorf("of no bytes: %x", s.Value())
	}
	all := ""
	for i := range 200 {
		piece := string(someBytes(random, random.Intn(9)))
		if i%2 == 0 {
			s.Text(piece)
			all += piece
		}
		b := byte(random.Intn(256))
		s.Put(b)
		all += string([]byte{b})
		for range 2 {
			if n := s.Value(); n != crc.Of(all) || n != slow(all) {
				t.Fatalf("of %d bytes: %x, not %x", len(all), n, slow(all))
			}
		}
	}
}

// 2.3: Reset forgets all bytes, and others follow.
func TestReset(t *testing.T) {
	s := crc.New()
	s.Reset()
	if s.Value() != 0 {
		t.Errorf("Reset of no bytes: %x", s.Value())
	}
	s.Text("1234")
	s.Put(0xff)
	s.Reset()
	if s.Value() != 0 {
		t.Errorf("Reset: %x", s.Value())
	}
	s.Text("")
	if s.Value() != 0 {
		t.Errorf("no bytes put: %x", s.Value())
	}
	s.Put('1')
	s.Text("23456789")
	if s.Value() != 0xfc891918 {
		t.Errorf("behind Reset: %x", s.Value())
	}
}

// 2.3: two sums have bytes of their own.
func TestTwoSums(t *testing.T) {
	a, b := crc.New(), crc.New()
	a.Text("1234")
	b.Put('a')
	a.Text("56789")
	if a.Value() != 0xfc891918 || b.Value() != 0x19939b6b {
		t.Errorf("%x, %x", a.Value(), b.Value())
	}
	a.Reset()
	if b.Value() != 0x19939b6b {
		t.Errorf("Reset of another one: %x", b.Value())
	}
}

// 2.3: of nil.
func TestNoSum(t *testing.T) {
	var s *crc.Sum
	s.Put('a')
	s.Text("bc")
	s.Text("")
	s.Reset()
	if s.Value() != 0 {
		t.Errorf("of nil: %x", s.Value())
	}
}

// 2.4: the sums of three texts of one length, and the sum of their exclusive or.
func TestThreeTexts(t *testing.T) {
	random := rand.New(rand.NewSource(7))
	for n := range 100 {
		a, b, c := someBytes(random, n), someBytes(random, n), someBytes(random, n)
		all := make([]byte, n)
		for i := range all {
			all[i] = a[i] ^ b[i] ^ c[i]
		}
		sums := crc.Of(string(a)) ^ crc.Of(string(b)) ^ crc.Of(string(c))
		if sum := crc.Of(string(all)); sum != sums {
			t.Errorf("of %d bytes: %x, not %x", n, sum, sums)
		}
	}
}

// turned is a text with the bits of a number turned that begin at a place.
func turned(s string, at int, burst uint32) string {
	b := []byte(s)
	for i := range 32 {
		if k := at + i; burst>>(31-i)&1 == 1 && k < 8*len(b) {
			b[k/8] ^= 0x80 >> (k % 8)
		}
	}
	return string(b)
}

// 2.5: bits turned within 32 that stand side by side make another sum.
func TestTurnedBits(t *testing.T) {
	random := rand.New(rand.NewSource(8))
	s := string(someBytes(random, 24))
	sum := crc.Of(s)
	for at := range 8 * len(s) {
		for _, burst := range []uint32{1 << 31, 3 << 30, 1<<32 - 1, 0x82608edb, 1<<31 | random.Uint32(), 1<<31 | random.Uint32()} {
			if crc.Of(turned(s, at, burst)) == sum {
				t.Errorf("bits %x turned at %d: the same sum", burst, at)
			}
		}
	}
}

// 2.6: another sum of a block, be it by one bit, makes another one of the stream.
func TestEachBlock(t *testing.T) {
	random := rand.New(rand.NewSource(9))
	blocks := make([]uint32, 70)
	for i := range blocks {
		blocks[i] = random.Uint32()
	}
	total := crc.Stream(blocks)
	for i, kept := range blocks {
		for bit := range 32 {
			blocks[i] = kept ^ 1<<bit
			if crc.Stream(blocks) == total {
				t.Errorf("bit %d of block %d: the same sum", bit, i)
			}
		}
		blocks[i] = kept
	}
}

// The bound: a long text, at once and byte by byte.
func TestLongText(t *testing.T) {
	s := string(someBytes(rand.New(rand.NewSource(10)), 1<<21))
	want := slow(s)
	if n := crc.Of(s); n != want {
		t.Errorf("Of: %x, not %x", n, want)
	}
	one := crc.New()
	for i := range len(s) {
		one.Put(s[i])
	}
	if one.Value() != want {
		t.Errorf("Value: %x, not %x", one.Value(), want)
	}
}
