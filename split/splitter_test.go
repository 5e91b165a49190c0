package split_test

import (
	"math/rand"
	"slices"
	"testing"

	"baler/api"
	"baler/split"
)

// model is a splitter as the chapter tells it: all bytes since it began.
type model struct {
	room  int
	s     string
	waits bool          // whether there is a piece that is not sure
	begun []split.Block // the blocks of those that are, without their sums
}

// put is what a splitter tells of a byte.
func (m *model) put(b byte) (split.Block, bool) {
	m.s += like(b, 1)
	sure := pieces(m.s)
	last := len(sure) - 1
	m.waits = sure[last].n < 255
	if m.waits {
		sure = sure[:last]
	}
	ahead := len(m.begun)
	m.begun = together(sure, m.room)
	if ahead > 0 && len(m.begun) > ahead {
		return plain(m.s, m.room)[ahead-1], true
	}
	return split.Block{}, false
}

// end is what a splitter tells at the end.
func (m *model) end() []split.Block {
	left := plain(m.s, m.room)[max(len(m.begun)-1, 0):]
	*m = model{room: m.room}
	return left
}

// held is how much a splitter keeps.
func (m *model) held() int {
	held := 0
	if n := len(m.begun); n > 0 {
		held = len(m.begun[n-1].Body)
	}
	if m.waits {
		held++
	}
	return held
}

// pair is a splitter, and what it must be.
type pair struct {
	t    *testing.T
	p    *split.Splitter
	want *model
}

// pairOf is a new splitter, held against its model.
func pairOf(t *testing.T, room int) *pair {
	t.Helper()
	p, e := split.New(room)
	if p == nil || e != api.OK {
		t.Fatalf("New(%d): %v, %v", room, p != nil, e)
	}
	x := &pair{t, p, &model{room: room}}
	x.look("at first")
	return x
}

// look fails unless as much is kept as must be; asked twice, for looking changes nothing.
func (x *pair) look(when string) {
	x.t.Helper()
	for range 2 {
		if n, want := x.p.Held(), x.want.held(); n != want {
			x.t.Fatalf("Held %s %q by %d: %d, not %d", when, short(x.want.s), x.want.room, n, want)
		}
	}
}

// put puts a text's bytes, and fails unless the right blocks are told.
func (x *pair) put(s string) {
	x.t.Helper()
	for i := range len(s) {
		want, whole := x.want.put(s[i])
		if b, is := x.p.Put(s[i]); b != want || is != whole {
			x.t.Fatalf("Put(%d) behind %q by %d: %s, %v, not %s, %v", s[i], short(x.want.s), x.want.room, shown(b), is, shown(want), whole)
		}
		x.look("behind")
	}
}

// end ends, and fails unless the right blocks are told.
func (x *pair) end() {
	x.t.Helper()
	s, want := x.want.s, x.want.end()
	if l := x.p.End(); !slices.Equal(l, want) {
		x.t.Fatalf("End of %q by %d: %s, not %s", short(s), x.want.room, shown(l...), shown(want...))
	}
	x.look("behind the end of " + short(s) + ":")
}

// 19.2: byte by byte by hand: a block is told with the byte by which the piece is sure that begins a further one.
func TestPut(t *testing.T) {
	p, _ := split.New(5)
	block := func(body string) split.Block { return plain(body, 5)[0] }
	for i, c := range []struct {
		b    byte
		want split.Block
		held int
	}{
		{'a', split.Block{}, 1}, {'b', split.Block{}, 2}, {'c', split.Block{}, 3}, {'d', split.Block{}, 4}, {'e', split.Block{}, 5}, {'f', split.Block{}, 6},
		{'g', block("abcde"), 2}, {'g', split.Block{}, 2}, {'g', split.Block{}, 2}, {'g', split.Block{}, 2}, {'h', block("f"), 6}, {'i', block("gggg"), 2},
	} {
		if b, whole := p.Put(c.b); b != c.want || whole != (c.want.Len > 0) || p.Held() != c.held {
			t.Errorf("%d: %s, %v, and %d held, not %s, %d", i, shown(b), whole, p.Held(), shown(c.want), c.held)
		}
	}
	if l := p.End(); !slices.Equal(l, plain("hi", 5)) || p.Held() != 0 {
		t.Errorf("End: %s, and %d held", shown(l...), p.Held())
	}
}

// 19.2: a row that is cut is told with its 255th byte, and then no piece waits.
func TestPutRow(t *testing.T) {
	p, _ := split.New(9)
	for i := range 255*3 + 10 {
		whole := i == 254+255 || i == 254+255*2
		if b, is := p.Put('x'); is != whole || whole && b != plain(like('x', 255), 9)[0] || !whole && b != (split.Block{}) {
			t.Fatalf("%d: %s, %v", i, shown(b), is)
		}
		held := 0
		if i >= 254 {
			held = 5
		}
		if i%255 != 254 {
			held++
		}
		if p.Held() != held {
			t.Fatalf("%d: %d held, not %d", i, p.Held(), held)
		}
	}
	if l := p.End(); !slices.Equal(l, plain(like('x', 255+10), 9)) {
		t.Errorf("End: %s", shown(l...))
	}
}

// 19.2: the end: nothing, what was begun, a piece that goes into it, and one that begins a block of its own.
func TestEnd(t *testing.T) {
	for _, s := range []string{"", "a", "ab", "aaaa", "abcde", "abcdef", "abcdeff", "aaaab", "baaaa", like('x', 254), like('x', 255), like('x', 256), "a" + like('x', 255)} {
		for _, room := range []int{5, 6, 7, 900000} {
			x := pairOf(t, room)
			x.put(s)
			x.end()
			x.end()
			x.put("aaaab")
			x.end()
		}
	}
}

// 19.2: it begins anew behind an end, wherever that is, with the sum and the row, too.
func TestEndEverywhere(t *testing.T) {
	s := "aabbbbcccccdddddde" + like('e', 256) + "fgggg"
	for cut := range len(s) + 1 {
		for room := 5; room < 12; room++ {
			x := pairOf(t, room)
			x.put(s[:cut])
			x.end()
			x.put(s[cut:])
			x.end()
		}
	}
}

// 19.2: all short texts of three letters.
func TestPutShort(t *testing.T) {
	for n := range 9 {
		all := 1
		for range n {
			all *= 3
		}
		for which := range all {
			s := ""
			for range n {
				s += string(rune('a' + which%3))
				which /= 3
			}
			for room := 5; room <= 5+n/4; room++ {
				x := pairOf(t, room)
				x.put(s)
				x.end()
			}
		}
	}
}

// 19.2: texts of all kinds, with ends at times.
func TestPutMany(t *testing.T) {
	random := rand.New(rand.NewSource(3))
	for range 200 {
		x := pairOf(t, someRoom(random))
		for range 1 + random.Intn(3) {
			s := someText(random)
			x.put(s[:min(len(s), 700)])
			x.end()
		}
	}
}

// 19.5: what is told byte by byte, and at the end, are the blocks.
func TestPutOf(t *testing.T) {
	random := rand.New(rand.NewSource(4))
	for range 1000 {
		s, room := someText(random), someRoom(random)
		p, _ := split.New(room)
		var all []split.Block
		for i := range len(s) {
			if b, whole := p.Put(s[i]); whole {
				all = append(all, b)
			}
		}
		all = append(all, p.End()...)
		wantOf(t, s, room, all)
	}
}

// R6: splitters are apart.
func TestApart(t *testing.T) {
	one, other := pairOf(t, 5), pairOf(t, 7)
	random := rand.New(rand.NewSource(5))
	for range 300 {
		one.put(like(byte('a'+random.Intn(2)), 1+random.Intn(3)))
		other.put(like(byte('a'+random.Intn(2)), 1+random.Intn(3)))
	}
	one.end()
	other.end()
}

// 19.2: of nil, and of a splitter that New did not make.
func TestNil(t *testing.T) {
	var none *split.Splitter
	var raw split.Splitter
	for _, p := range []*split.Splitter{none, &raw} {
		for _, b := range []byte("aaaaaabbc\x00") {
			if x, whole := p.Put(b); x != (split.Block{}) || whole {
				t.Errorf("Put: %v, %v", x, whole)
			}
		}
		if l := p.End(); len(l) != 0 || p.Held() != 0 {
			t.Errorf("End: %v, and %d held", l, p.Held())
		}
		for i := range 600 {
			if x, whole := p.Put('x'); x != (split.Block{}) || whole || p.Held() != 0 {
				t.Fatalf("Put %d: %v, %v", i, x, whole)
			}
		}
		if l := p.End(); len(l) != 0 {
			t.Errorf("End: %v", l)
		}
	}
}
