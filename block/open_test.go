package block_test

import (
	"encoding/hex"
	"math/rand"
	"strings"
	"testing"

	"baler/api"
	"baler/bits"
	"baler/block"
	"baler/crc"
	"baler/rle"
)

// wantOpen fails unless Open tells this.
func wantOpen(t *testing.T, g block.Got, want string, err api.Errno) {
	t.Helper()
	if s, e := block.Open(g); s != want || e != err {
		t.Fatalf("Open(%q of %d, %d, %08x): %q of %d, %v, not %q, %v", short(g.Last), len(g.Last), g.Origin, g.Sum, short(s), len(s), e, short(want), err)
	}
}

// 20.4: blocks by hand.
func TestOpen(t *testing.T) {
	wantOpen(t, block.Got{Last: "a", Sum: 0x19939b6b}, "a", api.OK)
	wantOpen(t, block.Got{Last: "nnbaaa", Origin: 3, Sum: crc.Of("banana")}, "banana", api.OK)
	wantOpen(t, block.Got{Last: "bbaa", Origin: 2, Sum: crc.Of("baba")}, "baba", api.OK)
	for _, body := range []string{"aaaa\x00", "aaaa\x02b", "baaaa\xfb", "aaaa\xfbaaaa\x00", "aaabaaa"} {
		last, origin := plainLast(body)
		s, _ := rle.Decode(body)
		wantOpen(t, block.Got{Last: last, Origin: origin, Sum: crc.Of(s)}, s, api.OK)
	}
}

// 20.4: each error, the first one of several: of the last bytes and the origin, of the body, of the sum.
func TestOpenErrors(t *testing.T) {
	for _, origin := range []int{0, 1, -1, least, greatest} {
		wantOpen(t, block.Got{Origin: origin}, "", api.ErrArg)
		wantOpen(t, block.Got{Last: like('a', most+1), Origin: origin}, "", api.ErrLong)
	}
	for _, origin := range []int{1, 2, -1, 1 << 32, least, greatest} {
		wantOpen(t, block.Got{Last: "a", Origin: origin, Sum: 0x19939b6b}, "", api.ErrOrig)
	}
	wantOpen(t, block.Got{Last: "aaaa", Origin: 4}, "", api.ErrOrig)
	for _, body := range []string{"aaaa", "baaaa", "aaaa\xfc", "aaaa\xffb", "aaaa\x00aaaa", "aaaa\xfc" + "bbbb"} {
		last, origin := plainLast(body)
		for _, sum := range []uint32{0, crc.Of(body), crc.Of("aaaa")} {
			wantOpen(t, block.Got{Last: last, Origin: origin, Sum: sum}, "", api.ErrData)
		}
	}
	for bit := range 32 {
		wantOpen(t, block.Got{Last: "a", Sum: 0x19939b6b ^ 1<<bit}, "", api.ErrCRC)
	}
	last, origin := plainLast("aaaa\x02")
	wantOpen(t, block.Got{Last: last, Origin: origin, Sum: crc.Of("aaaa\x02")}, "", api.ErrCRC)
	wantOpen(t, block.Got{Last: last, Origin: origin, Sum: crc.Of("aaaaaa")}, "aaaaaa", api.OK)
}

// 20.4: a body may stand for many times as much: as many whole rows as may be, whose rotations are each there as often as the rows.
func TestOpenLong(t *testing.T) {
	rows := most / 5
	s := like('a', 255*rows)
	wantOpen(t, block.Got{Last: like('\xfb', rows) + like('a', 4*rows), Sum: crc.Of(s)}, s, api.OK)
}

// 20.5, 20.6: what was written of packed texts and bodies is read, and nothing more; and opened it is the text.
func TestWriteAndRead(t *testing.T) {
	random := rand.New(rand.NewSource(7))
	for i := range 1000 {
		s := someText(random)
		body, sum := rle.Encode(s), crc.Of(s)
		w := bits.NewWriter()
		ahead := i % 32
		w.Put(0, ahead)
		if e := block.Write(w, body, sum); e != api.OK {
			t.Fatalf("Write(%q): %v", short(body), e)
		}
		end := w.Len()
		w.Put(1<<random.Intn(20), 20)
		w.Pad()
		out := w.Take()
		g, e := block.Read(behind(out, ahead), max(5, len(body)))
		if e != api.OK {
			t.Fatalf("Read of %q: %v", short(body), e)
		}
		wantOpen(t, g, s, api.OK)
		if len(body) < 500 {
			last, origin := plainLast(body)
			wantRead(t, behind(out, ahead), max(5, len(body)), block.Got{Last: last, Origin: origin, Sum: sum}, api.OK, end)
		}
		wantRead(t, behind(out, ahead), most, g, api.OK, end)
		if len(body) > 5 {
			wantRead(t, behind(out, ahead), len(body)-1, block.Got{}, api.ErrData, ahead)
		}
	}
}

// 20.6: blocks of last bytes and origins of any kind, one behind the other.
func TestTurnedAndRead(t *testing.T) {
	random := rand.New(rand.NewSource(8))
	w := bits.NewWriter()
	var all []block.Got
	var ends []int
	for range 300 {
		g := block.Got{Last: someBody(random), Sum: random.Uint32()}
		g.Origin = random.Intn(len(g.Last))
		if e := block.Turned(w, g.Last, g.Origin, g.Sum); e != api.OK {
			t.Fatalf("Turned: %v", e)
		}
		all, ends = append(all, g), append(ends, w.Len())
	}
	w.Pad()
	r := bits.NewReader(w.Take())
	for i, g := range all {
		wantRead(t, r, max(5, len(g.Last)), g, api.OK, ends[i])
		r.Drop()
	}
}

// 20.2, 20.4: blocks of streams that the format's own library wrote: what they stand for, and where they end.
func TestReadOfOthers(t *testing.T) {
	fox := strings.Repeat("the quick brown fox jumps over the lazy dog, ", 9)
	for text, stream := range map[string]string{
		"banana":                 "425a6831314159265359efb6ec0100000181003001200030cc0c7a885e2ee48a70a121df6dd802",
		like('a', 300) + "bbbbc": "425a6835314159265359af776ec40000035100c000002038000008200030c00647a9ea048bb4aa78bb9229c284857bbb7620",
		fox:                      "425a6831314159265359e4d7dfcc0000a7918040043ffffff020009028d0d00000014aa4d4d304c119a9b6a3f2311da311c6348ca348df1d23f638c778ca3ba358d91e63d2358ce3fa328d9188f319c738d23d4671da3fe358cd188c474a5ee3dc7c177245385090e4d7dfcc",
		like(0, 1000):            "425a683231415926535901e8d060000001c001c00000800008200020aa6d4198ba83c5dc914e1424007a341800",
		"\x00\x11\x22\x33\x44\x55\x66\x77\x88\x99\xaa\xbb\xcc\xdd\xee\xff": "425a6833314159265359abb7655f0000007fffc000200010000800040002000100008000400020001000080004000200010000a000228c980014c00134cf00fc8d159e26af345dc914e14242aedd957c",
		like(0xff, 5) + strings.Repeat("ab", 700):                          "425a6839314159265359d97cbced0002be4100a00030000000a00030cd3413551e9bd884b504b3fc2ee48a70a121b2f979da",
	} {
		s, _ := hex.DecodeString(stream)
		r := behind(string(s), 32+48)
		g, e := block.Read(r, int(s[3]-'0')*100000)
		if e != api.OK {
			t.Fatalf("Read of %q: %v", short(text), e)
		}
		wantOpen(t, g, text, api.OK)
		high, _ := r.Get(24)
		low, _ := r.Get(24)
		if uint64(high)<<24|uint64(low) != block.End || r.Left() < 32 || r.Left() > 39 {
			t.Errorf("the block of %q ends elsewhere", short(text))
		}
	}
}
