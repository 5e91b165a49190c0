package block_test

import (
	"math/rand"
	"slices"
	"strings"
	"testing"

	"baler/api"
	"baler/bits"
	"baler/block"
	"baler/code"
	"baler/used"
)

// model is a reader as the chapter tells it, with bits of its own.
type model struct {
	r      *bits.Reader
	room   int
	begun  bool
	got    block.Got // what was read so far
	list   []byte
	row    *code.Reader
	zeros  int // how many places 0 the row has that has not ended,
	weight int // and how many more its next code stands for at least
	told   []int
	wrong  api.Errno
	done   bool
}

// step is what a reader tells of a step.
func (m *model) step() api.Errno {
	if m.done {
		return api.ErrState
	}
	if m.wrong != api.OK {
		return m.wrong
	}
	e := m.part()
	if e == api.OK && m.row.Done() && len(m.told) == 0 {
		m.done = m.got.Origin < len(m.got.Last)
		if !m.done {
			e = api.ErrOrig
		}
	}
	if e != api.ErrShort {
		m.wrong = e
	}
	return e
}

// part does what is due.
func (m *model) part() api.Errno {
	var e api.Errno
	switch {
	case len(m.told) > 0:
		m.touch(m.told[0])
		m.told = m.told[1:]
	case !m.begun:
		e = m.head()
	case m.list == nil:
		var symbols string
		symbols, e = used.Read(m.r)
		if e == api.OK {
			m.list, m.weight = []byte(symbols), 1
			m.row, _ = code.NewReader(len(symbols) + 2)
		}
	default:
		var symbol int
		symbol, e = m.row.Step(m.r)
		if e == api.OK && symbol >= 0 {
			e = m.code(symbol)
		}
	}
	return e
}

// touch takes in a place.
func (m *model) touch(place int) {
	b := m.list[place]
	m.list = slices.Insert(slices.Delete(m.list, place, place+1), 0, b)
	m.got.Last += like(b, 1)
}

// head reads what stands ahead of the symbols.
func (m *model) head() api.Errno {
	if m.r.Left() < 57 {
		return api.ErrShort
	}
	sum, _ := m.r.Get(32)
	both, _ := m.r.Get(25)
	if both>>24 == 1 {
		return api.ErrData
	}
	m.begun, m.got = true, block.Got{Sum: sum, Origin: int(both)}
	return api.OK
}

// code takes a code.
func (m *model) code(c int) api.Errno {
	if c < 2 {
		m.zeros += (1 + c) * m.weight
		m.weight *= 2
	} else {
		m.told = make([]int, m.zeros)
		m.zeros, m.weight = 0, 1
		if c < len(m.list)+1 {
			m.told = append(m.told, c-1)
		}
	}
	if m.zeros+len(m.told)+len(m.got.Last) > m.room {
		m.told = nil
		return api.ErrData
	}
	return api.OK
}

// held is how much a reader keeps.
func (m *model) held() int { return m.row.Held() + len(m.got.Last) }

// result is what a reader tells of what it read.
func (m *model) result() block.Got {
	if m.done {
		return m.got
	}
	return block.Got{}
}

// modelOf is the model of a reader of bytes, from a place on.
func modelOf(s string, at, room int) *model {
	return &model{r: behind(s, at), room: room}
}

// behind is a reader of bytes, whose place is behind so many bits.
func behind(s string, at int) *bits.Reader {
	r := bits.NewReader(s)
	r.Seek(at)
	return r
}

// reader is a new reader of a block; it fails, if there is none.
func reader(t *testing.T, room int) *block.Reader {
	t.Helper()
	b, e := block.NewReader(room)
	if b == nil || e != api.OK {
		t.Fatalf("NewReader(%d): %v, %v", room, b != nil, e)
	}
	wantState(t, b, 0, block.Got{}, false)
	return b
}

// wantState fails unless a reader keeps so much, and has read that; asked twice, for looking changes nothing.
func wantState(t *testing.T, b *block.Reader, held int, got block.Got, done bool) {
	t.Helper()
	for range 2 {
		if g := b.Got(); b.Held() != held || g != got || b.Done() != done {
			t.Fatalf("Held %d, Done %v, Got %q of %d, %d, %08x, not %d, %v, %q of %d, %d, %08x",
				b.Held(), b.Done(), short(g.Last), len(g.Last), g.Origin, g.Sum, held, done, short(got.Last), len(got.Last), got.Origin, got.Sum)
		}
	}
}

// wantStep fails unless a step tells this, and the place is then behind so many bits.
func wantStep(t *testing.T, b *block.Reader, r *bits.Reader, want api.Errno, at int) {
	t.Helper()
	from, end := r.At(), r.At()+r.Left()
	if e := b.Step(r); e != want || r.At() != at || r.At()+r.Left() != end {
		t.Fatalf("Step at %d: %v, and the place is %d, not %v, %d", from, e, r.At(), want, at)
	}
}

// wantNoStep fails unless a step tells an error, and changes nothing.
func wantNoStep(t *testing.T, b *block.Reader, r *bits.Reader, want api.Errno) {
	t.Helper()
	held, got, done, bytes := b.Held(), b.Got(), b.Done(), r.Held()
	wantStep(t, b, r, want, r.At())
	wantState(t, b, held, got, done)
	if r.Held() != bytes {
		t.Fatalf("Step: %d bytes are held, not %d", r.Held(), bytes)
	}
}

// wantLike fails unless a step does as the model's does.
func wantLike(t *testing.T, b *block.Reader, r *bits.Reader, m *model) api.Errno {
	t.Helper()
	e := m.step()
	wantStep(t, b, r, e, m.r.At())
	wantState(t, b, m.held(), m.result(), m.done)
	return e
}

// wantRead fails unless Read tells this, and the place is then behind so many bits.
func wantRead(t *testing.T, r *bits.Reader, room int, want block.Got, err api.Errno, at int) {
	t.Helper()
	if g, e := block.Read(r, room); g != want || e != err || r.At() != at {
		t.Fatalf("Read by %d: %q of %d, %d, %08x, %v at %d, not %q of %d, %d, %08x, %v at %d",
			room, short(g.Last), len(g.Last), g.Origin, g.Sum, e, r.At(), short(want.Last), len(want.Last), want.Origin, want.Sum, err, at)
	}
}

// padded are bits with bits 1 ahead of them, so many that they end with a byte, and how many these are.
func padded(row string) (string, int) {
	skip := 8 + (8-len(row)%8)%8
	return packed(strings.Repeat("1", skip) + row), skip
}

// someBlock are bits by which a block is often read, and often goes wrong late; and a room that is often just enough.
func someBlock(random *rand.Rand) (string, int) {
	last := someBody(random)
	symbols := plainSymbols(last + someBody(random)[:1])
	last = last[random.Intn(len(last)+1):]
	origin := random.Intn(1 + len(last))
	if random.Intn(4) == 0 {
		origin = max(0, len(last)-1+random.Intn(3))
	}
	head := plainHead(origin, random.Uint32())
	if random.Intn(12) == 0 {
		head = head[:32] + "1" + head[33:]
	}
	row := head + plainUsed(symbols) + plainRow(plainCodes(last, symbols), len(symbols)+2)
	if random.Intn(5) == 0 {
		i := 57 + random.Intn(len(row)-57)
		row = row[:i] + string('0'+'1'-row[i]) + row[i+1:]
	}
	if random.Intn(5) == 0 {
		row = row[:random.Intn(len(row))]
	}
	return row, max(5, len(last)-1+random.Intn(3))
}

// 20.2: rooms that may be, and such that may not.
func TestNewReader(t *testing.T) {
	for _, room := range []int{5, 6, 24, 100000, 899981, 899999, 900000} {
		reader(t, room)
		wantRead(t, bits.NewReader(packed(example)), room, block.Got{Last: "a", Sum: 0x19939b6b}, api.OK, len(example))
	}
	for _, room := range []int{4, 3, 1, 0, -1, -5, least, 900001, 900002, 1 << 32, 1<<32 + 5, greatest} {
		if b, e := block.NewReader(room); b != nil || e != api.ErrArg {
			t.Errorf("NewReader(%d): %v, %v", room, b != nil, e)
		}
		for _, s := range []string{"", packed(example), "\xff\xff"} {
			wantRead(t, behind(s, 8*min(len(s), 1)), room, block.Got{}, api.ErrArg, 8*min(len(s), 1))
			if g, e := block.Read(nil, room); g != (block.Got{}) || e != api.ErrState {
				t.Errorf("Read(nil, %d): %v, %v", room, g, e)
			}
		}
	}
	if g, e := block.Read(nil, 5); g != (block.Got{}) || e != api.ErrState {
		t.Errorf("Read(nil): %v, %v", g, e)
	}
}

// 20.2, 20.3: the document's example, step by step: its fields, its symbols, its row, and a place behind that.
func TestSteps(t *testing.T) {
	b, r := reader(t, 5), bits.NewReader(packed(example+"111111"))
	for i, step := range []struct{ bits, held int }{
		{57, 0}, {32, 0}, {18, 0}, {1, 1},
		{5, 1}, {1, 1}, {1, 1}, {2, 1}, {1, 4}, {5, 4}, {1, 4}, {1, 4}, {2, 4}, {1, 7}, {2, 7}, {1, 7}, {0, 8},
	} {
		wantNoStep(t, b, nil, api.ErrState)
		wantStep(t, b, r, api.OK, r.At()+step.bits)
		if i < 16 {
			wantState(t, b, step.held, block.Got{}, false)
		}
	}
	wantState(t, b, 8, block.Got{Last: "a", Sum: 0x19939b6b}, true)
	for _, r := range []*bits.Reader{r, nil, bits.NewReader(""), bits.NewReader(packed(example))} {
		wantNoStep(t, b, r, api.ErrState)
	}
}

// 20.2: a step for each place, in which nothing is read, as soon as a code tells it: those of a row of 0 ahead of the other one, or of the end.
func TestPlaces(t *testing.T) {
	b, r := reader(t, 13), bits.NewReader(packed(plainHead(12, 9)+plainUsed("abc")+plainRow([]int{2, 0, 3, 1, 1, 2, 0, 0, 4}, 5)))
	steps := ""
	for !b.Done() {
		at, held := r.At(), b.Held()
		if e := b.Step(r); e != api.OK {
			t.Fatalf("Step: %v", e)
		}
		switch {
		case r.At() > at:
			steps += "|"
		case b.Held() == held+1:
			steps += "."
		default:
			t.Fatalf("a step reads nothing, and %d becomes %d", held, b.Held())
		}
	}
	// Ahead of the first code all steps read.
	if codes := steps[strings.Index(steps, ".")-1:]; codes != "|.||..|||.......|||..." {
		t.Errorf("%s", codes)
	}
	wantState(t, b, 1+2*5+13, block.Got{Last: "bbcccccccbbbb", Origin: 12, Sum: 9}, true)
}

// 20.2: places that wait are taken in without bits, of any reader, but a nil one.
func TestPlacesWithoutBits(t *testing.T) {
	row := plainHead(0, 9) + plainUsed("a") + plainRow([]int{1, 1, 0, 2}, 3)
	b, r := reader(t, 10), bits.NewReader(packed(row))
	for r.At() < len(row) {
		wantNoStep(t, b, bits.NewReader(""), api.ErrShort)
		if e := b.Step(r); e != api.OK {
			t.Fatalf("Step: %v", e)
		}
	}
	for i := range 10 {
		wantState(t, b, 7+i, block.Got{}, false)
		wantNoStep(t, b, nil, api.ErrState)
		wantStep(t, b, behind("abc", i), api.OK, i)
	}
	wantState(t, b, 17, block.Got{Last: like('a', 10), Sum: 9}, true)
}

// A pick of two tables, and these, of three codes, which are 10, 11, 0, and of five, which are 00, 01, 10, 110, 111.
const (
	onePick    = "010 000000000000001 0 |"
	three      = "00010 0 0 11 0 |"
	five       = "00010 0 0 0 10 0 0 |"
	threeCodes = onePick + three + three
	fiveCodes  = onePick + five + five
)

// 20.2: each step's error by hand, what is read and kept then, and that each further step tells the same, and reads nothing, of other readers too.
func TestStepErrors(t *testing.T) {
	a, abc := plainUsed("a"), plainUsed("abc")
	head := plainHead(0, 7)
	for _, c := range []struct {
		row      string
		room     int
		want     api.Errno
		held, at int // the place is behind all, if that is 0
	}{
		{field(7, 32) + "1" + field(0, 24), 5, api.ErrData, 0, 0}, {field(7, 32) + "1" + field(0, 24) + a + exampleRow, 5, api.ErrData, 0, 57}, {strings.Repeat("1", 57), 5, api.ErrData, 0, 0},
		{head + field(0, 16), 5, api.ErrData, 0, 57}, {head + "1000000000000001" + field(0, 32), 5, api.ErrData, 0, 57},
		{head + a + "111 000000000000001", 5, api.ErrData, 0, 0}, {head + a + "001 000000000000001", 5, api.ErrData, 0, 0}, {head + a + "010 000000000000000", 5, api.ErrData, 0, 0}, {head + a + "010 000000000000010 0 11", 5, api.ErrData, 1, 0},
		{head + a + onePick + "00000", 5, api.ErrTable, 1, 0}, {head + a + onePick + "00010 0 0 0", 5, api.ErrTable, 1, 0}, {head + a + onePick + three + "00001 0 11", 5, api.ErrTable, 4, 0},
		{head + abc + onePick + "00010 0 0 0 0 0", 5, api.ErrTable, 1, 0}, {head + abc + fiveCodes + strings.Repeat("10", 50), most, api.ErrData, 61, 0},
		{head + a + threeCodes + "10 10 10", 5, api.ErrData, 7, 0}, {head + a + threeCodes + "10 10 10", 6, api.ErrData, 7, 0}, {head + a + threeCodes + "11 11", 5, api.ErrData, 7, 0}, {head + a + threeCodes + strings.Repeat("11", 20), most, api.ErrData, 7, 57 + 32 + 39 + 2*19},
		{head + abc + fiveCodes + "10 10 10 10 10 10", 5, api.ErrData, 16, 0}, {head + abc + fiveCodes + "01 00 10 10", 5, api.ErrData, 16, 0}, {head + abc + fiveCodes + "01 01 10", 6, api.ErrData, 11, 0}, {head + abc + fiveCodes + "01 10 01 00", 6, api.ErrData, 14, 0},
		{head + a + threeCodes + "0", 5, api.ErrOrig, 7, 0}, {head + abc + fiveCodes + "111", 5, api.ErrOrig, 11, 0}, {plainHead(1, 7) + a + threeCodes + "10 0", 5, api.ErrOrig, 8, 0}, {plainHead(3, 7) + a + threeCodes + "10 10 0", 5, api.ErrOrig, 10, 0},
		{plainHead(1, 7) + abc + fiveCodes + "10 111", 5, api.ErrOrig, 12, 0}, {plainHead(5, 7) + abc + fiveCodes + "01 10 01 111", 5, api.ErrOrig, 16, 0}, {plainHead(1<<24-1, 7) + abc + fiveCodes + "110 111", 5, api.ErrOrig, 12, 0},
	} {
		row := joined(c.row)
		at := c.at
		if at == 0 {
			at = len(row)
		}
		s, skip := padded(row)
		for _, more := range []string{"", "\x00\x00", "\xff"} {
			b, r := reader(t, c.room), behind(s+more, skip)
			e := api.OK
			for e == api.OK {
				e = b.Step(r)
			}
			if e != c.want || r.At() != skip+at {
				t.Fatalf("%s by %d: %v at %d, not %v at %d", c.row, c.room, e, r.At()-skip, c.want, at)
			}
			wantState(t, b, c.held, block.Got{}, false)
			for _, other := range []*bits.Reader{r, bits.NewReader(""), bits.NewReader(packed(example)), bits.NewReader("\x00\x00\x00")} {
				wantNoStep(t, b, other, c.want)
			}
			wantNoStep(t, b, nil, api.ErrState)
			wantNoStep(t, b, r, c.want)
			wantRead(t, behind(s+more, skip), c.room, block.Got{}, c.want, skip)
		}
	}
}

// 20.2: the origin is told wrong by the step with which all was read: of the last place, if places wait behind the end.
func TestOrigin(t *testing.T) {
	row := joined(plainHead(3, 7) + plainUsed("a") + threeCodes + "10 10 0")
	b, r := reader(t, 5), bits.NewReader(packed(row))
	for r.At() < len(row) {
		if e := b.Step(r); e != api.OK {
			t.Fatalf("Step: %v", e)
		}
	}
	wantStep(t, b, r, api.OK, len(row))
	wantStep(t, b, r, api.OK, len(row))
	wantStep(t, b, r, api.ErrOrig, len(row))
	for origin := range 4 {
		want, e, at := block.Got{Last: "aaa", Origin: origin, Sum: 7}, api.OK, len(row)
		if origin == 3 {
			want, e, at = block.Got{}, api.ErrOrig, 0
		}
		wantRead(t, bits.NewReader(packed(plainHead(origin, 7)+row[57:])), 5, want, e, at)
	}
}

// 20.2: the bits of a whole block cut at each place: too few of them wait, and go on with the others.
func TestStepShort(t *testing.T) {
	random := rand.New(rand.NewSource(4))
	for range 4 {
		last := someBody(random)
		last = last[:min(len(last), 40)]
		row := plainBlock(last, random.Intn(len(last)), random.Uint32())
		for cut := range len(row) {
			s, skip := padded(row[:cut])
			m, b, r := modelOf(s, skip, 40), reader(t, 40), behind(s, skip)
			for e := api.OK; e == api.OK; {
				e = wantLike(t, b, r, m)
			}
			wantNoStep(t, b, r, api.ErrShort)
			wantNoStep(t, b, r, api.ErrShort)
			wantRead(t, behind(s, skip), 40, block.Got{}, api.ErrShort, skip)
			rest := packed(row[cut:])
			r.More(rest)
			m.r.More(rest)
			for e := api.OK; e == api.OK; {
				e = wantLike(t, b, r, m)
			}
			if !b.Done() || r.At() != skip+len(row) || b.Got().Last != last {
				t.Fatalf("cut at %d: Done %v at %d of %d, %q", cut, b.Done(), r.At(), skip+len(row), b.Got().Last)
			}
		}
	}
}

// 20.2, 20.3, 20.4: blocks of all kinds, from places on that are within a byte, step by step and at once; and two readers at a time are apart.
func TestStepMany(t *testing.T) {
	random := rand.New(rand.NewSource(5))
	times := map[api.Errno]int{}
	for i := range 3000 {
		row, room := someBlock(random)
		skip := i % 16
		s := packed(strings.Repeat("1", skip) + row)
		m, b, r, other := modelOf(s, skip, room), reader(t, room), behind(s, skip), reader(t, room)
		e := api.OK
		for e == api.OK {
			e = wantLike(t, b, r, m)
			if random.Intn(4) == 0 {
				r.Drop()
			}
		}
		wantLike(t, b, r, m)
		wantState(t, other, 0, block.Got{}, false)
		times[e]++
		if e == api.ErrState {
			wantRead(t, behind(s, skip), room, m.got, api.OK, m.r.At())
		} else {
			wantRead(t, behind(s, skip), room, block.Got{}, e, skip)
		}
	}
	for _, e := range []api.Errno{api.ErrState, api.ErrShort, api.ErrData, api.ErrTable, api.ErrOrig} {
		if times[e] < 100 {
			t.Errorf("too few of %v: %v", e, times)
		}
	}
}

// 20.2: bits that come byte by byte tell the same: what is too short goes on, when more come.
func TestStepInPieces(t *testing.T) {
	random := rand.New(rand.NewSource(6))
	ends := 0
	for range 300 {
		row, room := someBlock(random)
		s := packed(row)
		m, b, r := modelOf("", 0, room), reader(t, room), bits.NewReader("")
		for i := range len(s) {
			wantLike(t, b, r, m)
			r.More(s[i : i+1])
			m.r.More(s[i : i+1])
			for e := api.OK; e == api.OK; {
				e = wantLike(t, b, r, m)
			}
			r.Drop()
		}
		if b.Done() {
			ends++
		}
	}
	if ends < 50 {
		t.Errorf("only %d blocks were read", ends)
	}
}

// 20.2, 20.3: as many last bytes as may be, and one more.
func TestReadLong(t *testing.T) {
	for _, last := range []string{like('a', most), strings.Repeat("ab", most/2)} {
		s := packed(plainBlock(last, most-1, 5))
		want := block.Got{Last: last, Origin: most - 1, Sum: 5}
		b, r := reader(t, most), bits.NewReader(s)
		for !b.Done() {
			if e := b.Step(r); e != api.OK {
				t.Fatalf("Step: %v", e)
			}
		}
		if b.Got() != want || b.Held() < most {
			t.Errorf("Got: %q of %d, and %d held", short(b.Got().Last), len(b.Got().Last), b.Held())
		}
		wantRead(t, bits.NewReader(s), most, want, api.OK, r.At())
		wantRead(t, bits.NewReader(s), most-1, block.Got{}, api.ErrData, 0)
	}
}

// 20.2, 20.3: of nil, and of a reader that NewReader did not make.
func TestNil(t *testing.T) {
	var none *block.Reader
	var raw block.Reader
	for _, b := range []*block.Reader{none, &raw} {
		for range 3 {
			wantNoStep(t, b, bits.NewReader(packed(example)), api.ErrState)
			wantNoStep(t, b, bits.NewReader(""), api.ErrState)
			wantNoStep(t, b, nil, api.ErrState)
			wantState(t, b, 0, block.Got{}, false)
		}
	}
}
