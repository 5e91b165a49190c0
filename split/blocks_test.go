package split_test

import (
	"fmt"
	"math/rand"
	"slices"
	"strings"
	"testing"

	"baler/api"
	"baler/crc"
	"baler/rle"
	"baler/split"
)

// least and greatest are the ends of all numbers.
const (
	least    = -1 << 63
	greatest = 1<<63 - 1
)

// most is the greatest room that may be.
const most = 900000

// short is a text to be shown.
func short(s string) string {
	if len(s) > 60 {
		return s[:60] + ".."
	}
	return s
}

// like is a text of so many like bytes.
func like(b byte, n int) string { return strings.Repeat(string([]byte{b}), n) }

// piece is a piece as bytes, and for how many bytes it stands.
type piece struct {
	body string
	n    int
}

// pieces are a text's pieces as their chapter tells them.
func pieces(s string) []piece {
	var all []piece
	for s != "" {
		n := 1
		for n < min(len(s), 255) && s[n] == s[0] {
			n++
		}
		body := s[:min(n, 4)]
		if n >= 4 {
			body += like(byte(n-4), 1)
		}
		all = append(all, piece{body, n})
		s = s[n:]
	}
	return all
}

// together are the blocks of pieces, without their sums.
func together(all []piece, room int) []split.Block {
	var blocks []split.Block
	for _, p := range all {
		last := len(blocks) - 1
		if last < 0 || len(blocks[last].Body)+len(p.body) > room {
			blocks = append(blocks, split.Block{})
			last++
		}
		blocks[last].Body += p.body
		blocks[last].Len += p.n
	}
	return blocks
}

// plain are a text's blocks.
func plain(s string, room int) []split.Block {
	blocks := together(pieces(s), room)
	for i, b := range blocks {
		blocks[i].Sum = crc.Of(s[:b.Len])
		s = s[b.Len:]
	}
	return blocks
}

// someText is a text of few letters, many of them alike in a row.
func someText(random *rand.Rand) string {
	var s strings.Builder
	letters := 1 + random.Intn(1<<random.Intn(9))
	for range random.Intn(30) {
		n := 1 + random.Intn(6)
		switch random.Intn(8) {
		case 0:
			n = 250 + random.Intn(12)
		case 1:
			n = random.Intn(600)
		}
		s.WriteString(like(byte(random.Intn(letters)), n))
	}
	return s.String()
}

// someRoom is a room, often one of the least.
func someRoom(random *rand.Rand) int { return 5 + random.Intn(1+random.Intn(1<<random.Intn(8))) }

// shown are blocks to be shown.
func shown(l ...split.Block) string {
	s := ""
	for _, b := range l[:min(len(l), 9)] {
		s += fmt.Sprintf("[%q %08x %d]", short(b.Body), b.Sum, b.Len)
	}
	return s
}

// wantOf fails unless these are a text's blocks.
func wantOf(t *testing.T, s string, room int, want []split.Block) {
	t.Helper()
	if l, e := split.Of(s, room); !slices.Equal(l, want) || e != api.OK {
		t.Fatalf("Of(%q, %d): %d blocks, %s, %v, not %d, %s", short(s), room, len(l), shown(l...), e, len(want), shown(want...))
	}
}

// 19.1: the room of all levels, and of the units where they begin and end.
func TestRoom(t *testing.T) {
	for level := 1; level <= 9; level++ {
		for _, unit := range []int{24, 25, 100, 4096, 99999, 100000} {
			if n, e := split.Room(level, unit); n != level*unit-19 || e != api.OK {
				t.Errorf("Room(%d, %d): %d, %v", level, unit, n, e)
			}
		}
	}
	for level, rooms := range map[int][2]int{1: {5, 99981}, 2: {29, 199981}, 9: {197, 899981}} {
		for i, unit := range []int{24, 100000} {
			if n, e := split.Room(level, unit); n != rooms[i] || e != api.OK {
				t.Errorf("Room(%d, %d): %d, %v", level, unit, n, e)
			}
		}
	}
}

// 19.1: levels and units that may not be, each beside one that may be, and both.
func TestNoRoom(t *testing.T) {
	levels := []int{0, -1, -9, 10, 11, 100, 1 << 32, 1<<32 + 1, least, greatest}
	units := []int{23, 22, 5, 0, -1, -24, 100001, 900000, 1 << 32, 1<<32 + 24, least, greatest}
	check := func(level, unit int) {
		if n, e := split.Room(level, unit); n != 0 || e != api.ErrArg {
			t.Errorf("Room(%d, %d): %d, %v", level, unit, n, e)
		}
	}
	for _, level := range levels {
		for _, unit := range append([]int{24, 1000, 100000}, units...) {
			check(level, unit)
		}
	}
	for _, unit := range units {
		for level := 1; level <= 9; level++ {
			check(level, unit)
		}
	}
}

// 19.1, 19.2: rooms that may be, and such that may not.
func TestWhichRooms(t *testing.T) {
	for _, room := range []int{5, 6, 24, 481, 100000, 899981, 899999, 900000} {
		wantOf(t, "", room, nil)
		wantOf(t, "aaaab", room, plain("aaaab", room))
		if p, e := split.New(room); p == nil || e != api.OK {
			t.Errorf("New(%d): %v, %v", room, p != nil, e)
		}
	}
	for _, room := range []int{4, 3, 1, 0, -1, -5, least, 900001, 900002, 1000000, 1 << 32, 1<<32 + 5, greatest} {
		for _, s := range []string{"", "a", "aaaab", like('x', 600)} {
			if l, e := split.Of(s, room); len(l) != 0 || e != api.ErrArg {
				t.Errorf("Of(%q, %d): %v, %v", short(s), room, l, e)
			}
		}
		if p, e := split.New(room); p != nil || e != api.ErrArg {
			t.Errorf("New(%d): %v, %v", room, p != nil, e)
		}
	}
}

// 19.1: blocks by hand: a piece that just fits, one that does not, and one of which no part goes into the block ahead.
func TestOf(t *testing.T) {
	for _, c := range []struct {
		s      string
		room   int
		bodies []string
		lens   []int
	}{
		{"", 5, nil, nil},
		{"a", 5, []string{"a"}, []int{1}},
		{"aaaab", 5, []string{"aaaa\x00", "b"}, []int{4, 1}},
		{"aaaab", 6, []string{"aaaa\x00b"}, []int{5}},
		{"baaaa", 5, []string{"b", "aaaa\x00"}, []int{1, 4}},
		{"baaaa", 6, []string{"baaaa\x00"}, []int{5}},
		{"abcde", 5, []string{"abcde"}, []int{5}},
		{"abcdef", 5, []string{"abcde", "f"}, []int{5, 1}},
		{"abcdee", 5, []string{"abcd", "ee"}, []int{4, 2}},
		{"abccc", 5, []string{"abccc"}, []int{5}},
		{"abcddd", 5, []string{"abc", "ddd"}, []int{3, 3}},
		{"abcdddeeffff", 6, []string{"abcddd", "ee", "ffff\x00"}, []int{6, 2, 4}},
		{"aaabaaab", 7, []string{"aaabaaa", "b"}, []int{7, 1}},
		{like('a', 255), 5, []string{"aaaa\xfb"}, []int{255}},
		{like('a', 256), 5, []string{"aaaa\xfb", "a"}, []int{255, 1}},
		{like('a', 256), 6, []string{"aaaa\xfba"}, []int{256}},
		{like('a', 259), 9, []string{"aaaa\xfb", "aaaa\x00"}, []int{255, 4}},
		{like('a', 259), 10, []string{"aaaa\xfbaaaa\x00"}, []int{259}},
		{like('a', 510) + "b", 10, []string{"aaaa\xfbaaaa\xfb", "b"}, []int{510, 1}},
	} {
		var want []split.Block
		at := 0
		for i, body := range c.bodies {
			want = append(want, split.Block{Body: body, Sum: crc.Of(c.s[at : at+c.lens[i]]), Len: c.lens[i]})
			at += c.lens[i]
		}
		wantOf(t, c.s, c.room, want)
	}
}

// 19.1: all short texts of two letters, by all rooms in which they may be cut.
func TestOfShort(t *testing.T) {
	for n := range 13 {
		for which := range 1 << n {
			s := ""
			for i := range n {
				s += string(rune('a' + which>>i&1))
			}
			for room := 5; room <= 13; room += 1 + n/9 {
				wantOf(t, s, room, plain(s, room))
			}
		}
	}
}

// 19.1: rows of like bytes of all lengths near those at which they are cut, ahead of others and behind them.
func TestOfRows(t *testing.T) {
	for n := range 800 {
		if n > 12 && n%255 > 12 && n%255 < 245 {
			continue
		}
		for room := 5; room <= 17; room++ {
			for _, s := range []string{like('x', n), "ab" + like('x', n), like('x', n) + "yz", "abcd" + like('x', n) + "x\x00" + like('\xff', n)} {
				wantOf(t, s, room, plain(s, room))
			}
		}
	}
}

// 19.1: texts of all kinds.
func TestOfMany(t *testing.T) {
	random := rand.New(rand.NewSource(1))
	for range 5000 {
		s, room := someText(random), someRoom(random)
		wantOf(t, s, room, plain(s, room))
	}
}

// 19.1, 19.4: blocks as long as may be.
func TestOfLong(t *testing.T) {
	unlike := strings.Repeat("ab", most/2)
	for _, c := range []struct {
		s    string
		room int
		lens []int
	}{
		{unlike, most, []int{most}}, {unlike + "a", most, []int{most, 1}}, {unlike[1:] + "aa", most, []int{most - 1, 2}}, {unlike, most - 1, []int{most - 1, 1}},
		{unlike + unlike, most, []int{most, most}}, {unlike + unlike[:5], most - 19, []int{most - 19, 24}}, {unlike[5:] + "xxxx", most, []int{most - 1}}, {unlike[4:] + "xxxx", most, []int{most - 4, 4}},
		{like('x', most/5*255), most, []int{most / 5 * 255}}, {like('x', most/5*255+1), most, []int{most / 5 * 255, 1}},
	} {
		l, e := split.Of(c.s, c.room)
		if e != api.OK || len(l) != len(c.lens) {
			t.Fatalf("Of(%d bytes, %d): %d blocks, %v", len(c.s), c.room, len(l), e)
		}
		at := 0
		for i, b := range l {
			part := c.s[at : at+c.lens[i]]
			if b.Len != c.lens[i] || b.Sum != crc.Of(part) || b.Body != rle.Encode(part) {
				t.Fatalf("Of(%d bytes, %d): block %d has %d, %08x, %d bytes", len(c.s), c.room, i, b.Len, b.Sum, len(b.Body))
			}
			at += b.Len
		}
	}
}

// 19.3, 19.4: bodies unpacked are the text, with their lengths and sums; none is too long, and none of them ends too early.
func TestFollows(t *testing.T) {
	random := rand.New(rand.NewSource(2))
	for range 2000 {
		s, room := someText(random), someRoom(random)
		l, _ := split.Of(s, room)
		all, ahead := "", room
		for i, b := range l {
			text, e := rle.Decode(b.Body)
			if e != api.OK || len(text) != b.Len || crc.Of(text) != b.Sum {
				t.Fatalf("Of(%q, %d): block %d, unpacked: %d bytes, %v, not %d", short(s), room, i, len(text), e, b.Len)
			}
			all += text
			first := pieces(text)[0].body
			if len(b.Body) == 0 || len(b.Body) > room || ahead+len(first) <= room {
				t.Fatalf("Of(%q, %d): block %d has %d bytes, the one ahead %d", short(s), room, i, len(b.Body), ahead)
			}
			ahead = len(b.Body)
		}
		if all != s {
			t.Fatalf("Of(%q, %d): all blocks are %q", short(s), room, short(all))
		}
	}
}
