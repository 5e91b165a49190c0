package unstream_test

import (
	"math/rand"
	"slices"
	"strconv"
	"strings"
	"testing"

	"baler/api"
	"baler/bits"
	"baler/block"
	"baler/unstream"
)

// least and greatest are the ends of all numbers.
const (
	least    = -1 << 63
	greatest = 1<<63 - 1
)

// short is a text to be shown.
func short(s string) string {
	if len(s) > 60 {
		return s[:60] + ".."
	}
	return s
}

// like is a text of so many like bytes.
func like(b byte, n int) string { return strings.Repeat(string([]byte{b}), n) }

// field is a number as n bits, one letter each.
func field(v uint64, n int) string { return strconv.FormatUint(1<<n|v, 2)[1:] }

// ones are so many bits 1.
func ones(n int) string { return strings.Repeat("1", n) }

// packed are bits as bytes, with bits 0 behind them up to a whole one.
func packed(row string) string {
	row += strings.Repeat("0", (8-len(row)%8)%8)
	s := make([]byte, len(row)/8)
	for i := range row {
		s[i/8] = s[i/8]<<1 | row[i]&1
	}
	return string(s)
}

// letters are bytes as bits, one letter each.
func letters(s string) string {
	var row strings.Builder
	for i := range len(s) {
		row.WriteString(field(uint64(s[i]), 8))
	}
	return row.String()
}

// turned is a bit turned.
func turned(row string, at int) string { return row[:at] + string('0'+'1'-row[at]) + row[at+1:] }

// The parts of streams by hand.
var (
	blockMagic = field(0x314159265359, 48)
	endMagic   = field(0x177245385090, 48)
)

// beginning is a stream's beginning as bits.
func beginning(level int) string { return letters("BZh" + strconv.Itoa(level)) }

// blockOf is a block as bits, its magic ahead.
func blockOf(g block.Got) string {
	w := bits.NewWriter()
	block.Turned(w, g.Last, g.Origin, g.Sum)
	n := w.Len()
	w.Pad()
	return blockMagic + letters(w.Take())[:n]
}

// blocksOf are blocks as bits.
func blocksOf(blocks []block.Got) string {
	row := ""
	for _, g := range blocks {
		row += blockOf(g)
	}
	return row
}

// endOf is a stream's end as bits, of its blocks' sums, without the bits up to a whole byte.
func endOf(sums ...uint32) string {
	total := uint32(0)
	for _, sum := range sums {
		total = (total<<1 | total>>31) ^ sum
	}
	return endMagic + field(uint64(total), 32)
}

// streamOf is a stream as bits, up to a whole byte.
func streamOf(level int, blocks ...block.Got) string {
	var sums []uint32
	for _, g := range blocks {
		sums = append(sums, g.Sum)
	}
	row := beginning(level) + blocksOf(blocks) + endOf(sums...)
	return row + strings.Repeat("0", (8-len(row)%8)%8)
}

// someBlock is a block of at most so many bytes, of few letters or many.
func someBlock(random *rand.Rand, most int) block.Got {
	letters := 1 + random.Intn(1<<random.Intn(9))
	last := make([]byte, 1+random.Intn(1+random.Intn(most)))
	for i := range last {
		last[i] = byte(random.Intn(letters))
		if i > 0 && random.Intn(3) == 0 {
			last[i] = last[i-1]
		}
	}
	return block.Got{Last: string(last), Origin: random.Intn(len(last)), Sum: random.Uint32()}
}

// behind is a reader of bytes, whose place is behind so many bits.
func behind(s string, at int) *bits.Reader {
	r := bits.NewReader(s)
	r.Seek(at)
	return r
}

// model is a reader as the chapter tells it, with bits of its own.
type model struct {
	r      *bits.Reader
	unit   int
	read   int           // how many bytes of a beginning were read
	level  int           // the last one's
	begun  *block.Reader // of a block that is being read
	atEnd  bool          // whether the magic of an end was read
	sums   []uint32
	got    block.Got
	ended  int // how many streams did
	wrong  api.Errno
	blocks int
}

// step is what a reader tells of a step.
func (m *model) step() (unstream.What, api.Errno) {
	if m.wrong != api.OK {
		return 0, m.wrong
	}
	what, e := m.part()
	if e != api.ErrShort {
		m.wrong = e
	}
	return what, e
}

// part does what is due.
func (m *model) part() (unstream.What, api.Errno) {
	switch {
	case m.read < 4:
		return 0, m.letter()
	case m.begun != nil:
		if e := m.begun.Step(m.r); e != api.OK || !m.begun.Done() {
			return 0, e
		}
		m.got, m.begun = m.begun.Got(), nil
		m.sums = append(m.sums, m.got.Sum)
		m.blocks++
		return 1, api.OK
	case m.atEnd:
		sum, e := m.r.Get(32)
		if e != api.OK {
			return 0, e
		}
		m.r.Align()
		if field(uint64(sum), 32) != endOf(m.sums...)[48:] {
			return 0, api.ErrCRC
		}
		m.read, m.sums, m.atEnd = 0, nil, false
		m.ended++
		return 2, api.OK
	}
	return 0, m.magic()
}

// letter reads a byte of a beginning.
func (m *model) letter() api.Errno {
	v, e := m.r.Get(8)
	if e != api.OK {
		return e
	}
	may := []string{"B", "Z", "h", "123456789"}[m.read]
	m.read++
	if !strings.Contains(may, string([]byte{byte(v)})) {
		return api.ErrMagic
	}
	m.level = int(v - '0')
	return api.OK
}

// magic reads a magic.
func (m *model) magic() api.Errno {
	if m.r.Left() < 48 {
		return api.ErrShort
	}
	s := ""
	for range 6 {
		v, _ := m.r.Get(8)
		s += like(byte(v), 1)
	}
	switch s {
	case "1AY&SY":
		m.begun, _ = block.NewReader(m.level * m.unit)
	case "\x17rE8P\x90":
		m.atEnd = true
	default:
		return api.ErrMagic
	}
	return api.OK
}

// state is what a reader keeps, what it read, and whether the input may end.
type state struct {
	held   int
	got    block.Got
	mayEnd bool
}

// state is what a model tells.
func (m *model) state() state {
	return state{m.begun.Held(), m.got, m.ended > 0 && m.read == 0}
}

// reader is a new reader of streams; it fails, if there is none.
func reader(t *testing.T, unit int) *unstream.Reader {
	t.Helper()
	u, e := unstream.New(unit)
	if u == nil || e != api.OK {
		t.Fatalf("New(%d): %v, %v", unit, u != nil, e)
	}
	wantState(t, u, state{})
	return u
}

// wantState fails unless a reader tells this; asked twice, for looking changes nothing.
func wantState(t *testing.T, u *unstream.Reader, want state) {
	t.Helper()
	for range 2 {
		if got := (state{u.Held(), u.Got(), u.MayEnd()}); got != want {
			t.Fatalf("Held %d, Got %q of %d, %d, %08x, MayEnd %v, not %d, %q of %d, %d, %08x, %v",
				got.held, short(got.got.Last), len(got.got.Last), got.got.Origin, got.got.Sum, got.mayEnd,
				want.held, short(want.got.Last), len(want.got.Last), want.got.Origin, want.got.Sum, want.mayEnd)
		}
	}
}

// wantStep fails unless a step tells this, and the place is then behind so many bits.
func wantStep(t *testing.T, u *unstream.Reader, r *bits.Reader, want unstream.What, err api.Errno, at int) {
	t.Helper()
	from, end := r.At(), r.At()+r.Left()
	if what, e := u.Step(r); what != want || e != err || r.At() != at || r.At()+r.Left() != end {
		t.Fatalf("Step at %d: %v, %v, and the place is %d, not %v, %v, %d", from, what, e, r.At(), want, err, at)
	}
}

// wantNoStep fails unless a step tells an error, and changes nothing.
func wantNoStep(t *testing.T, u *unstream.Reader, r *bits.Reader, want api.Errno) {
	t.Helper()
	was, bytes := (state{u.Held(), u.Got(), u.MayEnd()}), r.Held()
	wantStep(t, u, r, unstream.Nothing, want, r.At())
	wantState(t, u, was)
	if r.Held() != bytes {
		t.Fatalf("Step: %d bytes are held, not %d", r.Held(), bytes)
	}
}

// wantLike fails unless a step does as the model's does.
func wantLike(t *testing.T, u *unstream.Reader, r *bits.Reader, m *model) api.Errno {
	t.Helper()
	what, e := m.step()
	wantStep(t, u, r, what, e, m.r.At())
	wantState(t, u, m.state())
	return e
}

// wantWrong fails unless an error was told that each further step tells, of whatever bits, and reads nothing; but of nil.
func wantWrong(t *testing.T, u *unstream.Reader, r *bits.Reader, want api.Errno) {
	t.Helper()
	for _, other := range []*bits.Reader{r, bits.NewReader(""), bits.NewReader("BZh9"), behind(packed(streamOf(9)), 32)} {
		wantNoStep(t, u, other, want)
		wantNoStep(t, u, nil, api.ErrState)
	}
	wantNoStep(t, u, r, want)
}

// reach goes steps until the place is behind so many bits, and no block is being read.
func reach(t *testing.T, u *unstream.Reader, r *bits.Reader, at int) {
	t.Helper()
	for r.At() < at || u.Held() > 0 {
		if _, e := u.Step(r); e != api.OK {
			t.Fatalf("Step up to %d: %v", r.At(), e)
		}
	}
	if r.At() != at {
		t.Fatalf("the place is %d, not %d", r.At(), at)
	}
}

// goOn goes steps that tell nothing until the place is behind so many bits.
func goOn(t *testing.T, u *unstream.Reader, r *bits.Reader, at int) {
	t.Helper()
	for r.At() < at {
		if what, e := u.Step(r); what != unstream.Nothing || e != api.OK {
			t.Fatalf("Step up to %d: %v, %v", r.At(), what, e)
		}
	}
	if r.At() != at {
		t.Fatalf("the place is %d, not %d", r.At(), at)
	}
}

// 22.1: units that may be, and such that may not.
func TestNew(t *testing.T) {
	for _, unit := range []int{24, 25, 1000, 99999, 100000} {
		reader(t, unit)
	}
	for _, unit := range []int{23, 0, 1, -1, -24, 100001, 900000, 1<<32 + 24, least, greatest} {
		if u, e := unstream.New(unit); u != nil || e != api.ErrArg {
			t.Errorf("New(%d): %v, %v", unit, u != nil, e)
		}
	}
}

// 22.1: what steps tell are these numbers.
func TestWhat(t *testing.T) {
	if unstream.Nothing != 0 || unstream.Block != 1 || unstream.Ended != 2 {
		t.Error(unstream.Nothing, unstream.Block, unstream.Ended)
	}
}

// 22.1, 22.2: two streams of the empty text, step by step: four bytes, the magic, the sum; and the input may end behind either.
func TestEmptySteps(t *testing.T) {
	u, r := reader(t, 24), bits.NewReader("BZh9\x17rE8P\x90\x00\x00\x00\x00BZh1\x17rE8P\x90\x00\x00\x00\x00")
	for i := range 2 {
		ahead := 112 * i
		for _, at := range []int{8, 16, 24, 32, 80} {
			wantStep(t, u, r, unstream.Nothing, api.OK, ahead+at)
			wantState(t, u, state{})
		}
		wantStep(t, u, r, unstream.Ended, api.OK, ahead+112)
		wantState(t, u, state{mayEnd: true})
	}
	wantNoStep(t, u, r, api.ErrShort)
	r.More("B")
	wantStep(t, u, r, unstream.Nothing, api.OK, 232)
	wantState(t, u, state{})
	wantNoStep(t, u, r, api.ErrShort)
}

// a is the document's block of "a".
var a = block.Got{Last: "a", Sum: 0x19939b6b}

// 22.1, 22.2: a stream of two blocks, step by step, and one of one block behind it: what is kept while a block is being read, and what was read last.
func TestBlockSteps(t *testing.T) {
	b := block.Got{Last: "bb", Origin: 1, Sum: 7}
	row := streamOf(1, a, b) + streamOf(3, b)
	u, r := reader(t, 24), bits.NewReader(packed(row))
	goOn(t, u, r, 32+48)
	for _, step := range []struct{ bits, held int }{
		{57, 0}, {32, 0}, {18, 0}, {1, 1},
		{5, 1}, {1, 1}, {1, 1}, {2, 1}, {1, 4}, {5, 4}, {1, 4}, {1, 4}, {2, 4}, {1, 7}, {2, 7}, {1, 7},
	} {
		wantStep(t, u, r, unstream.Nothing, api.OK, r.At()+step.bits)
		wantState(t, u, state{held: step.held})
	}
	// The last place is taken in without bits; behind that no block is being read.
	wantStep(t, u, r, unstream.Block, api.OK, r.At())
	wantState(t, u, state{got: a})
	wantStep(t, u, r, unstream.Nothing, api.OK, r.At()+48)
	wantState(t, u, state{got: a})
	goOn(t, u, r, 32+len(blockOf(a)+blockOf(b)))
	wantState(t, u, state{held: 7, got: a})
	wantStep(t, u, r, unstream.Nothing, api.OK, r.At())
	wantState(t, u, state{held: 8, got: a})
	wantStep(t, u, r, unstream.Block, api.OK, r.At())
	wantState(t, u, state{got: b})
	wantStep(t, u, r, unstream.Nothing, api.OK, r.At()+48)
	wantState(t, u, state{got: b})
	wantStep(t, u, r, unstream.Ended, api.OK, len(streamOf(1, a, b)))
	wantState(t, u, state{got: b, mayEnd: true})
	goOn(t, u, r, r.At()+32)
	wantState(t, u, state{got: b})
	goOn(t, u, r, r.At()+len(blockOf(b)))
	wantState(t, u, state{held: 7, got: b})
}

// 22.1: each byte at each place of a beginning, of the first stream and a further one.
func TestLetters(t *testing.T) {
	for _, ahead := range []string{"", packed(streamOf(2)), packed(streamOf(2, a))} {
		for place, may := range []string{"B", "Z", "h", "123456789"} {
			for c := range 256 {
				begun := ahead + "BZh"[:place]
				u, r := reader(t, 50), bits.NewReader(begun+like(byte(c), 1)+"\x17rE8P\x90")
				reach(t, u, r, 8*len(begun))
				was := state{0, u.Got(), u.MayEnd()}
				if was.mayEnd != (ahead != "" && place == 0) {
					t.Fatalf("MayEnd behind %q: %v", begun, was.mayEnd)
				}
				// A byte that was read is one of a further stream, also if none of that kind may stand there.
				was.mayEnd = false
				if strings.Contains(may, like(byte(c), 1)) {
					wantStep(t, u, r, unstream.Nothing, api.OK, 8*len(begun)+8)
					wantState(t, u, was)
					continue
				}
				wantStep(t, u, r, unstream.Nothing, api.ErrMagic, 8*len(begun)+8)
				wantState(t, u, was)
				wantWrong(t, u, r, api.ErrMagic)
			}
		}
	}
}

// 22.1, 22.2: behind a stream of the empty text, and behind more of them, a byte that begins no further one is read, and then the input may not end, at once and behind each further step; where none is there, it may.
func TestWrongByteBehindAStream(t *testing.T) {
	ended := "BZh2\x17\x72\x45\x38\x50\x90\x00\x00\x00\x00"
	for streams := 1; streams <= 3; streams++ {
		ahead := strings.Repeat(ended, streams)
		for _, wrong := range []string{"\x00", "x", "b", "ZBh9", "\xff\xff", "1" + ended} {
			u, r := reader(t, 24), bits.NewReader(ahead)
			reach(t, u, r, 8*len(ahead))
			wantState(t, u, state{mayEnd: true})
			wantNoStep(t, u, r, api.ErrShort)
			wantNoStep(t, u, nil, api.ErrState)
			r.More(wrong)
			wantStep(t, u, r, unstream.Nothing, api.ErrMagic, 8*len(ahead)+8)
			wantState(t, u, state{})
			wantWrong(t, u, r, api.ErrMagic)
			wantState(t, u, state{})
			if text, e := unstream.With(24, ahead+wrong); text != "" || e != api.ErrMagic {
				t.Fatalf("With %d streams and %q: %q, %v", streams, wrong, text, e)
			}
		}
	}
}

// 22.1: magics with a bit turned, and others, at the first place and behind a block.
func TestMagics(t *testing.T) {
	wrong := []string{ones(48), field(0, 48), blockMagic[:24] + endMagic[24:], endMagic[:24] + blockMagic[24:], letters("BZh9BZ"), blockMagic[1:] + "1", "0" + blockMagic[:47]}
	for i := range 48 {
		wrong = append(wrong, turned(blockMagic, i), turned(endMagic, i))
	}
	for _, ahead := range []string{beginning(5), beginning(5) + blockOf(a)} {
		for _, m := range wrong {
			u, r := reader(t, 24), bits.NewReader(packed(ahead+m+ones(200)))
			reach(t, u, r, len(ahead))
			got := u.Got()
			wantStep(t, u, r, unstream.Nothing, api.ErrMagic, len(ahead)+48)
			wantState(t, u, state{got: got})
			wantWrong(t, u, r, api.ErrMagic)
		}
	}
}

// 22.1: the sum of a stream is that of its own blocks, in order; with a bit turned it is told wrong.
func TestSum(t *testing.T) {
	one, two := block.Got{Last: "a", Sum: 1 << 31}, block.Got{Last: "b", Sum: 5}
	for _, blocks := range [][]block.Got{nil, {a}, {one, two}, {two, one}, {one, one, two}, slices.Repeat([]block.Got{two}, 33)} {
		row := streamOf(1, blocks...)
		at := len(beginning(1) + blocksOf(blocks) + endMagic)
		for _, ahead := range []string{"", streamOf(1, two), streamOf(1, one, two)} {
			u, r := reader(t, 24), bits.NewReader(packed(ahead+row+ahead))
			reach(t, u, r, len(ahead)+at)
			wantStep(t, u, r, unstream.Ended, api.OK, len(ahead+row))
		}
		for i := range 32 {
			u, r := reader(t, 24), bits.NewReader(packed(turned(row, at+i)))
			reach(t, u, r, at)
			got := u.Got()
			wantStep(t, u, r, unstream.Nothing, api.ErrCRC, len(row))
			wantState(t, u, state{got: got})
			wantWrong(t, u, r, api.ErrCRC)
		}
	}
}

// 22.1: the bits up to a whole byte may be any; there are as many as there are bits behind the last whole byte.
func TestPad(t *testing.T) {
	random := rand.New(rand.NewSource(1))
	times := [8]int{}
	for range 200 {
		g := someBlock(random, 60)
		row := beginning(1) + blockOf(g) + endOf(g.Sum)
		pad := (8 - len(row)%8) % 8
		times[pad]++
		for v := range 1 << pad {
			whole := row + field(uint64(v), pad)
			u, r := reader(t, 100), bits.NewReader(packed(whole+streamOf(1)))
			reach(t, u, r, len(row)-32)
			wantStep(t, u, r, unstream.Ended, api.OK, len(whole))
			goOn(t, u, r, len(whole)+80)
			wantStep(t, u, r, unstream.Ended, api.OK, len(whole)+112)
		}
	}
	for pad, n := range times {
		if n < 5 {
			t.Errorf("too few streams lack %d bits: %v", pad, times)
		}
	}
}

// 22.1: the room of a block is the level of its own stream times the unit, nothing taken off.
func TestRoom(t *testing.T) {
	of := func(n int) block.Got { return block.Got{Last: strings.Repeat("ab", n)[:n], Sum: uint32(n)} }
	for _, c := range []struct{ unit, level int }{{24, 1}, {24, 9}, {25, 2}, {1000, 3}} {
		full, over := of(c.level*c.unit), of(c.level*c.unit+1)
		for _, ahead := range []string{"", streamOf(9, of(9*c.unit)), streamOf(1, of(c.unit))} {
			row := ahead + beginning(c.level) + blockOf(full)
			u, r := reader(t, c.unit), bits.NewReader(packed(row+blockOf(over)+endOf(full.Sum, over.Sum)))
			reach(t, u, r, len(row))
			wantState(t, u, state{got: full})
			e := api.OK
			for e == api.OK {
				_, e = u.Step(r)
			}
			if e != api.ErrData || r.At() >= len(row+blockOf(over)) || r.At() < len(row) {
				t.Fatalf("a block of %d by %d: %v at %d", len(over.Last), c.unit, e, r.At())
			}
			wantState(t, u, state{held: u.Held(), got: full})
			wantWrong(t, u, r, api.ErrData)
		}
	}
}

// 22.1, 22.2: the errors of a block's reader, ahead of which another block was read: what of it was kept still is.
func TestBlockErrors(t *testing.T) {
	head := field(7, 32) + "0" + field(0, 24)
	symbol := "0000001000000000" + "0100000000000000"
	pick := "010" + "000000000000001" + "0"
	table := "00010" + "0" + "0" + "11" + "0"
	for _, c := range []struct {
		row, left string // what is read with the last step, and what isn't
		held      int
		want      api.Errno
	}{
		{field(7, 32) + "1" + field(0, 24), "", 0, api.ErrData}, {head, field(0, 16), 0, api.ErrData}, {head + symbol + "111" + ones(15), "", 0, api.ErrData},
		{head + symbol + pick + "00000", "", 1, api.ErrTable}, {head + symbol + pick + table + "00010" + "0" + "0" + "0", "", 4, api.ErrTable},
		{head + symbol + pick + table + table + "0", "", 7, api.ErrOrig}, {head + symbol + pick + table + table + "11" + "11" + "11" + "11", "", 7, api.ErrData},
	} {
		row := beginning(1) + blockOf(a) + blockMagic + c.row
		u, r := reader(t, 24), bits.NewReader(packed(row+c.left+ones(100)))
		reach(t, u, r, len(beginning(1)+blockOf(a)))
		e := api.OK
		for e == api.OK {
			_, e = u.Step(r)
		}
		if e != c.want || r.At() != len(row) {
			t.Fatalf("%s: %v at %d of %d, not %v", c.row, e, r.At(), len(row), c.want)
		}
		wantState(t, u, state{held: c.held, got: a})
		wantWrong(t, u, r, c.want)
	}
}

// 22.1: streams cut at each bit: too few bits change nothing, and what was read goes on when the others come.
func TestShort(t *testing.T) {
	row := streamOf(2, block.Got{Last: "nnbaaa", Origin: 3, Sum: 0xfedcba98}, a) + streamOf(9, a)
	for skip := range 8 {
		s := packed(ones(skip) + row)
		for cut := 1; cut < len(s); cut++ {
			u, r := reader(t, 24), behind(s[:cut], skip)
			m := &model{r: behind(s[:cut], skip), unit: 24}
			for e := api.OK; e == api.OK; {
				e = wantLike(t, u, r, m)
			}
			if m.wrong == api.OK {
				wantNoStep(t, u, r, api.ErrShort)
				wantNoStep(t, u, bits.NewReader(""), api.ErrShort)
				wantNoStep(t, u, nil, api.ErrState)
			}
			r.More(s[cut:])
			m.r.More(s[cut:])
			for e := api.OK; e == api.OK; {
				e = wantLike(t, u, r, m)
			}
			if skip == 0 && (m.blocks != 3 || m.ended != 2 || r.Left() != 0) {
				t.Fatalf("cut at %d: %d blocks, %d streams", cut, m.blocks, m.ended)
			}
		}
	}
}

// someStreams are streams as bits, by which all is often read, and often goes wrong late.
func someStreams(random *rand.Rand, unit int) string {
	row := ""
	for range 1 + random.Intn(3) {
		var blocks []block.Got
		level := 1 + random.Intn(9)
		for range random.Intn(4) {
			blocks = append(blocks, someBlock(random, level*unit+random.Intn(2)*random.Intn(2)*random.Intn(2)*9))
		}
		row += streamOf(level, blocks...)
	}
	if random.Intn(3) == 0 {
		row = turned(row, random.Intn(len(row)))
	}
	if random.Intn(4) == 0 {
		row = row[:random.Intn(len(row)+1)/8*8]
	}
	if random.Intn(6) == 0 {
		row += field(uint64(random.Intn(1<<16)), 16)
	}
	return row
}

// 22.1, 22.2: streams of all kinds, step by step, as bytes come one by one, or at once; and two readers at a time are apart.
func TestMany(t *testing.T) {
	random := rand.New(rand.NewSource(2))
	times := map[api.Errno]int{}
	for range 1500 {
		unit := 24 + random.Intn(20)
		s := packed(someStreams(random, unit))
		u, other := reader(t, unit), reader(t, unit)
		came := random.Intn(2) * len(s)
		r := bits.NewReader(s[:came])
		m := &model{r: bits.NewReader(s[:came]), unit: unit}
		e := wantLike(t, u, r, m)
		for e == api.OK || e == api.ErrShort && came < len(s) {
			if e == api.ErrShort {
				r.More(s[came : came+1])
				m.r.More(s[came : came+1])
				came++
			}
			if random.Intn(4) == 0 {
				r.Drop()
			}
			e = wantLike(t, u, r, m)
		}
		wantState(t, other, state{})
		wantNoStep(t, u, r, e)
		if e == api.ErrShort && u.MayEnd() {
			e = api.OK
		}
		times[e]++
	}
	for _, e := range []api.Errno{api.OK, api.ErrShort, api.ErrMagic, api.ErrData, api.ErrCRC} {
		if times[e] < 30 {
			t.Errorf("too few of %v: %v", e, times)
		}
	}
}

// 22.1, 22.2: of nil, and of a reader that New did not make.
func TestNil(t *testing.T) {
	var raw unstream.Reader
	for _, u := range []*unstream.Reader{nil, &raw} {
		for range 3 {
			for _, r := range []*bits.Reader{bits.NewReader("BZh9\x17rE8P\x90\x00\x00\x00\x00"), bits.NewReader(""), bits.NewReader("x"), nil} {
				wantNoStep(t, u, r, api.ErrState)
				wantState(t, u, state{})
			}
		}
	}
}

// 22.1: a nil reader of bits is told, and not kept, at each step.
func TestNoBits(t *testing.T) {
	row := streamOf(1, a)
	u, r := reader(t, 24), bits.NewReader(packed(row))
	for r.Left() > 0 {
		wantNoStep(t, u, nil, api.ErrState)
		if _, e := u.Step(r); e != api.OK {
			t.Fatalf("Step: %v", e)
		}
	}
	wantNoStep(t, u, nil, api.ErrState)
	wantState(t, u, state{got: a, mayEnd: true})
}
