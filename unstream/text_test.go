package unstream_test

import (
	"compress/bzip2"
	"encoding/hex"
	"io"
	"math/rand"
	"strings"
	"testing"

	"baler/api"
	"baler/block"
	"baler/bwt"
	"baler/crc"
	"baler/stream"
	"baler/unstream"
)

// wantWith fails unless With tells this.
func wantWith(t *testing.T, unit int, s, want string, err api.Errno) {
	t.Helper()
	if got, e := unstream.With(unit, s); got != want || e != err {
		t.Fatalf("With(%d, %x of %d): %q of %d, %v, not %q of %d, %v", unit, short(s), len(s), short(got), len(got), e, short(want), len(want), err)
	}
}

// wantDecode fails unless Decode tells this.
func wantDecode(t *testing.T, s, want string, err api.Errno) {
	t.Helper()
	if got, e := unstream.Decode(s); got != want || e != err {
		t.Fatalf("Decode(%x of %d): %q of %d, %v, not %q of %d, %v", short(s), len(s), short(got), len(got), e, short(want), len(want), err)
	}
}

// someText is a text with rows of like bytes.
func someText(random *rand.Rand) string {
	var s strings.Builder
	letters := 1 + random.Intn(1<<random.Intn(9))
	for range random.Intn(1 << random.Intn(10)) {
		n := 1
		if random.Intn(9) == 0 {
			n += random.Intn(400)
		}
		s.WriteString(like(byte(random.Intn(letters)), n))
	}
	return s.String()
}

// encoded is a text's stream.
func encoded(t *testing.T, level, unit int, s string) string {
	t.Helper()
	out, e := stream.With(level, unit, s)
	if e != api.OK {
		t.Fatalf("stream.With: %v", e)
	}
	return out
}

// 22.3: the document's examples, and others by hand.
func TestDecode(t *testing.T) {
	empty := "BZh9\x17rE8P\x90\x00\x00\x00\x00"
	one := "BZh91AY&SY\x19\x93\x9b\x6b\x00\x00\x00\x01\x00\x20\x00\x20\x00\x21\x18\x46\x82\xee\x48\xa7\x0a\x12\x03\x32\x73\x6d\x60"
	for s, want := range map[string]string{empty: "", one: "a", empty + one: "a", one + empty: "a", one + one: "aa", empty + empty + empty: ""} {
		wantDecode(t, s, want, api.OK)
		wantWith(t, 24, s, want, api.OK)
	}
	for s, want := range map[string]api.Errno{
		"": api.ErrEnd, "BZx": api.ErrMagic, "B": api.ErrEnd, "BZ": api.ErrEnd, "BZh": api.ErrEnd, "BZh1": api.ErrEnd, "b": api.ErrMagic, "BZ0": api.ErrMagic, "BZh0": api.ErrMagic, "BZh:": api.ErrMagic,
		empty + "\x00": api.ErrMagic, one + "\x00": api.ErrMagic, empty + "B": api.ErrEnd, empty + "BZ": api.ErrEnd, empty + "BZh": api.ErrEnd, one + "BZh9": api.ErrEnd, one + "BZh91AY&SY": api.ErrEnd, one + "BZh91AY&SZ": api.ErrMagic,
		empty[:13] + "\x01": api.ErrCRC, one + empty[:13] + "\x01": api.ErrCRC, "BZh91AY&S": api.ErrEnd, "BZh9xxxxx": api.ErrEnd, "BZh9xxxxxx": api.ErrMagic,
	} {
		wantDecode(t, s, "", want)
		wantWith(t, 24, s, "", want)
	}
}

// 22.3: units that may not be are told ahead of all else.
func TestUnits(t *testing.T) {
	for _, s := range []string{"", "x", packed(streamOf(1)), packed(streamOf(1, a))} {
		for _, unit := range []int{23, 0, -1, 100001, 1<<32 + 24, least, greatest} {
			wantWith(t, unit, s, "", api.ErrArg)
		}
	}
	for _, unit := range []int{24, 25, 99999, 100000} {
		wantWith(t, unit, packed(streamOf(1, a)), "a", api.OK)
		wantWith(t, unit, "", "", api.ErrEnd)
		wantWith(t, unit, "x", "", api.ErrMagic)
	}
}

// 22.3, 22.4: there and back, of one stream and of several, by all levels and many units.
func TestThereAndBack(t *testing.T) {
	random := rand.New(rand.NewSource(3))
	for range 300 {
		unit := 24 + random.Intn(1<<random.Intn(12))
		all, whole, texts, wholes := "", "", "", ""
		for range 1 + random.Intn(4) {
			level, s := 1+random.Intn(9), someText(random)
			out := encoded(t, level, unit, s)
			wantWith(t, unit, out, s, api.OK)
			all, texts = all+out, texts+s
			out = encoded(t, level, 100000, s)
			wantDecode(t, out, s, api.OK)
			whole, wholes = whole+out, wholes+s
		}
		wantWith(t, unit, all, texts, api.OK)
		wantDecode(t, whole, wholes, api.OK)
		wantDecode(t, all, texts, api.OK)
	}
}

// 22.3, 22.4: texts of more than a block of 100000 bytes; by a lesser unit a block is too long.
func TestLong(t *testing.T) {
	noise := make([]byte, 230000)
	rand.New(rand.NewSource(4)).Read(noise)
	for _, s := range []string{string(noise), like('a', 6000000), strings.Repeat("abcde", 50000)} {
		for _, level := range []int{1, 2, 9} {
			wantDecode(t, encoded(t, level, 100000, s), s, api.OK)
		}
	}
	s := string(noise[:99981])
	out := encoded(t, 1, 100000, s)
	wantWith(t, 99981, out, s, api.OK)
	wantWith(t, 99980, out, "", api.ErrData)
}

// ofOthers are streams that the format's own library wrote, by what they stand for.
func ofOthers() map[string]string {
	all := map[string]string{}
	for text, s := range map[string]string{
		"":                           "425a683117724538509000000000",
		"a":                          "425a683931415926535919939b6b00000001002000200021184682ee48a70a120332736d60",
		strings.Repeat("abc", 50000): "425a68313141592653595a0b37e400411701003800200030cc0529a6aa4207552103552103cc50564994d646c30f7600082400400e0008000c33014a69a0881d0440d0440f177245385090af1a5210",
		like('x', 300) + strings.Repeat("yz", 60000): "425a6831314159265359bfbbb8aa0000029080802000700008200030cd0052a31e373f6c09416e409416718a0ac9329aca7a482048009c7804000181000184026a302a15a0a857177245385090303e755c",
		like(0, 6000000): "425a68313141592653597eb243c4000d04c000c0000008200020a40834a82a312a0a8e6282b24ca6b2cb59b770000dcc8201800004000010400061981354d351426d48a13c5dc914e14242632170c0",
	} {
		out, _ := hex.DecodeString(s)
		all[text] = string(out)
	}
	return all
}

// 22.3: streams that the format's own library wrote, of no block, one and two; and several one behind the other.
func TestOfOthers(t *testing.T) {
	all, texts := "", ""
	for text, s := range ofOthers() {
		wantDecode(t, s, text, api.OK)
		all, texts = all+s, texts+text
		wantDecode(t, all, texts, api.OK)
	}
}

// 22.3, 22.5: streams cut at each byte: only where one ends the input may end.
func TestCut(t *testing.T) {
	one, two, three := encoded(t, 1, 24, "hello, hello, hello"), encoded(t, 2, 24, ""), encoded(t, 3, 24, "bye")
	s := one + two + three
	ends := map[int]string{len(one): "hello, hello, hello", len(one + two): "hello, hello, hello", len(s): "hello, hello, hellobye"}
	for n := range len(s) + 1 {
		text, may := ends[n]
		e := api.ErrEnd
		if may {
			e = api.OK
		}
		wantWith(t, 24, s[:n], text, e)
	}
}

// opened is a block of a body and a sum, by which Open tells an error, or the body's text.
func opened(body string, sum uint32) block.Got {
	last, origin, _ := bwt.Of(body)
	return block.Got{Last: last, Origin: origin, Sum: sum}
}

// 22.3, 22.5: a block that can't be opened is told as soon as it was read, ahead of what is wrong behind it, but not ahead of what is wrong ahead.
func TestOpen(t *testing.T) {
	good := opened("abc", crc.Of("abc"))
	for _, c := range []struct {
		bad  block.Got
		want api.Errno
	}{
		{opened("aaaa", 5), api.ErrData}, {opened("aaaa\xfc", 5), api.ErrData}, {opened("aaaa\x00bbbb", 5), api.ErrData}, {opened("abc", crc.Of("abc")^1), api.ErrCRC}, {opened("abc", 0), api.ErrCRC}, {opened("aaaa\x01", crc.Of("aaaa\x01")), api.ErrCRC},
	} {
		for _, blocks := range [][]block.Got{{c.bad}, {good, c.bad}, {c.bad, good}, {good, c.bad, good}, {c.bad, opened("aaaa", 5)}} {
			row := streamOf(1, blocks...)
			wantWith(t, 24, packed(row), "", c.want)
			wantWith(t, 24, packed(streamOf(2, good)+row+streamOf(3, good)), "", c.want)
			// The sum of the stream is told behind it, a stream that isn't whole too,
			n := strings.LastIndex(row, endMagic)
			wantWith(t, 24, packed(turned(row, n+60)), "", c.want)
			wantWith(t, 24, packed(row[:n]), "", c.want)
			wantWith(t, 24, packed(turned(row, n)), "", c.want)
			// what stands ahead of it first.
			wantWith(t, 24, packed(streamOf(9)[:111]+"1"+row), "", api.ErrCRC)
			wantWith(t, 24, "BZh:"+packed(row), "", api.ErrMagic)
		}
		wantWith(t, 24, packed(beginning(1)+blockOf(c.bad)), "", c.want)
	}
	wantWith(t, 24, packed(beginning(1)+blockOf(good)[:150]), "", api.ErrEnd)
}

// 22.3: the errors of a block's reader, behind a block that was read.
func TestReaderErrors(t *testing.T) {
	head := blockMagic + field(7, 32) + "0" + field(0, 24)
	symbol := "0000001000000000" + "0100000000000000"
	tables := "010" + "000000000000001" + "0" + strings.Repeat("00010"+"0"+"0"+"11"+"0", 2)
	for row, want := range map[string]api.Errno{
		blockMagic + field(7, 32) + "1" + field(0, 24): api.ErrData, head + field(0, 16): api.ErrData, head + symbol + ones(18): api.ErrData,
		head + symbol + "010" + "000000000000001" + "0" + "00000": api.ErrTable, head + symbol + tables + "0": api.ErrOrig, head + symbol + tables + "11111111": api.ErrData,
	} {
		for _, ahead := range []string{beginning(1), beginning(1) + blockOf(opened("a", crc.Of("a"))), streamOf(1, opened("a", crc.Of("a"))) + beginning(1)} {
			wantWith(t, 24, packed(ahead+row), "", want)
			wantWith(t, 24, packed(ahead+row+ones(99)), "", want)
		}
	}
}

// 22.3, 22.5: streams of several blocks with a bit turned: an error, and no text; or what another decoder of the format tells, too.
func TestTurned(t *testing.T) {
	random := rand.New(rand.NewSource(5))
	times := map[api.Errno]int{}
	for range 12 {
		s := someText(random)
		s = s[:min(len(s), 120)]
		row := letters(encoded(t, 1, 30, s) + encoded(t, 2, 30, "abc"))
		for i := range row {
			out := packed(turned(row, i))
			got, e := unstream.With(30, out)
			times[e]++
			if e != api.OK && got != "" {
				t.Fatalf("bit %d of the stream of %q: %q, %v", i, s, got, e)
			}
			if l, err := io.ReadAll(bzip2.NewReader(strings.NewReader(out))); e == api.OK && (err != nil || string(l) != got) {
				t.Fatalf("bit %d of the stream of %q: %q, but %q, %v", i, s, got, l, err)
			}
		}
	}
	for _, e := range []api.Errno{api.ErrMagic, api.ErrCRC, api.ErrTable, api.ErrOrig, api.ErrData} {
		if times[e] < 10 {
			t.Errorf("too few of %v: %v", e, times)
		}
	}
}

// 22.3: With is what its steps come to, of whatever is read.
func TestWithSteps(t *testing.T) {
	random := rand.New(rand.NewSource(6))
	times := map[api.Errno]int{}
	for range 1500 {
		unit := 24 + random.Intn(20)
		s := packed(someTextStreams(t, random, unit))
		text, want := bySteps(s, unit)
		wantWith(t, unit, s, text, want)
		times[want]++
	}
	for _, e := range []api.Errno{api.OK, api.ErrMagic, api.ErrCRC, api.ErrTable, api.ErrEnd, api.ErrData} {
		if times[e] < 30 {
			t.Errorf("too few of %v: %v", e, times)
		}
	}
}

// someTextStreams are streams of texts as bits, often with something wrong.
func someTextStreams(t *testing.T, random *rand.Rand, unit int) string {
	row := ""
	for range 1 + random.Intn(3) {
		s := someText(random)
		row += letters(encoded(t, 1+random.Intn(9), unit, s[:min(len(s), 300)]))
	}
	for range random.Intn(3) {
		row = turned(row, random.Intn(len(row)))
	}
	if random.Intn(4) == 0 {
		row = row[:random.Intn(len(row)+1)]
	}
	return row
}

// bySteps is what With tells, by the model's steps.
func bySteps(s string, unit int) (string, api.Errno) {
	m, text := &model{r: behind(s, 0), unit: unit}, ""
	for {
		blocks := m.blocks
		switch _, e := m.step(); {
		case e == api.ErrShort && m.ended > 0 && m.read == 0:
			return text, api.OK
		case e == api.ErrShort:
			return "", api.ErrEnd
		case e != api.OK:
			return "", e
		}
		if m.blocks > blocks {
			part, e := block.Open(m.got)
			if e != api.OK {
				return "", e
			}
			text += part
		}
	}
}
