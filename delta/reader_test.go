package delta_test

import (
	"math/rand"
	"slices"
	"strconv"
	"strings"
	"testing"

	"baler/api"
	"baler/bits"
	"baler/delta"
)

// model is a reader as the chapter tells it, of bits that are letters.
type model struct {
	row   string // all bits
	at    int    // the place among them
	size  int
	lens  []int
	last  int
	begun bool
	wrong bool
}

// field is the number that the next n bits tell; it is -1, if there are too few.
func (m *model) field(n int) int {
	if len(m.row)-m.at < n {
		return -1
	}
	v, _ := strconv.ParseInt(m.row[m.at:m.at+n], 2, 32)
	return int(v)
}

// done is whether all lengths were read.
func (m *model) done() bool { return len(m.lens) == m.size }

// step is what a reader tells of a step.
func (m *model) step() api.Errno {
	rest := m.row[m.at:]
	switch {
	case m.done():
		return api.ErrState
	case m.wrong:
		return api.ErrTable
	case !m.begun && m.field(5) >= 0:
		m.last, m.begun, m.at = m.field(5), true, m.at+5
	case m.begun && strings.HasPrefix(rest, "0"):
		m.lens, m.at = append(m.lens, m.last), m.at+1
	case m.begun && strings.HasPrefix(rest, "10"):
		m.last, m.at = m.last+1, m.at+2
	case m.begun && strings.HasPrefix(rest, "11"):
		m.last, m.at = m.last-1, m.at+2
	default:
		return api.ErrShort
	}
	if m.last < 1 || m.last > 20 {
		m.wrong = true
		return api.ErrTable
	}
	return api.OK
}

// read is the first error of all steps.
func (m *model) read() api.Errno {
	for !m.done() {
		if e := m.step(); e != api.OK {
			return e
		}
	}
	return api.OK
}

// reader is a new reader of so many lengths; it fails, if there is none.
func reader(t *testing.T, size int) *delta.Reader {
	t.Helper()
	d, e := delta.NewReader(size)
	if d == nil || e != api.OK {
		t.Fatalf("NewReader(%d): %v, %v", size, d != nil, e)
	}
	wantState(t, d, nil, false)
	return d
}

// wantState fails unless a reader has read these, and is done or not; asked twice, for looking changes nothing.
func wantState(t *testing.T, d *delta.Reader, lens []int, done bool) {
	t.Helper()
	for range 2 {
		if l := d.Lens(); !slices.Equal(l, lens) || d.Done() != done {
			t.Fatalf("Lens %v, Done %v, not %v, %v", short(l), d.Done(), short(lens), done)
		}
	}
}

// wantStep fails unless a step tells this, and the place is then behind so many bits.
func wantStep(t *testing.T, d *delta.Reader, r *bits.Reader, want api.Errno, at int) {
	t.Helper()
	from, end := r.At(), r.At()+r.Left()
	if e := d.Step(r); e != want || r.At() != at || r.At()+r.Left() != end {
		t.Fatalf("Step at %d: %v, and the place is %d, not %v, %d", from, e, r.At(), want, at)
	}
}

// wantNoStep fails unless a step tells an error, and changes nothing.
func wantNoStep(t *testing.T, d *delta.Reader, r *bits.Reader, want api.Errno) {
	t.Helper()
	lens, done, held := d.Lens(), d.Done(), r.Held()
	wantStep(t, d, r, want, r.At())
	wantState(t, d, lens, done)
	if r.Held() != held {
		t.Fatalf("Step: %d bytes are held, not %d", r.Held(), held)
	}
}

// wantLike fails unless a step does as the model's does, with bits that begin behind skip others.
func wantLike(t *testing.T, d *delta.Reader, r *bits.Reader, m *model, skip int) api.Errno {
	t.Helper()
	e := m.step()
	if e == api.OK || e == api.ErrTable {
		wantStep(t, d, r, e, skip+m.at)
	} else {
		wantNoStep(t, d, r, e)
	}
	wantState(t, d, m.lens, m.done())
	return e
}

// wantRead fails unless Read tells this, and the place is then behind so many bits.
func wantRead(t *testing.T, r *bits.Reader, size int, want []int, err api.Errno, at int) {
	t.Helper()
	if l, e := delta.Read(r, size); !slices.Equal(l, want) || e != err || r.At() != at {
		t.Fatalf("Read of %d: %v, %v at %d, not %v, %v at %d", size, short(l), e, r.At(), short(want), err, at)
	}
}

// someRow are bits by which lengths are often read, and often go wrong late.
func someRow(random *rand.Rand) string {
	var row strings.Builder
	row.WriteString(strconv.FormatInt(int64(32+random.Intn(23)), 2)[1:])
	for range random.Intn(200) {
		row.WriteString([]string{"0", "10", "11", "1"}[random.Intn(3+random.Intn(20)/19)])
	}
	return row.String()
}

// 11.2: readers of all numbers of lengths, and of what is none.
func TestNewReader(t *testing.T) {
	for size := 3; size <= 258; size++ {
		reader(t, size)
	}
	for _, size := range []int{2, 1, 0, -1, -3, least, 259, 260, 1 << 32, 1<<32 + 3, greatest} {
		if d, e := delta.NewReader(size); d != nil || e != api.ErrArg {
			t.Errorf("NewReader(%d): %v, %v", size, d != nil, e)
		}
	}
}

// 11.2: the document's example, step by step.
func TestSteps(t *testing.T) {
	d, r := reader(t, 3), bits.NewReader(packed("000100110100"+"1111"))
	for _, c := range []struct {
		at   int
		lens []int
	}{{5, nil}, {6, []int{2}}, {8, []int{2}}, {9, []int{2, 1}}, {11, []int{2, 1}}, {12, []int{2, 1, 2}}} {
		wantStep(t, d, r, api.OK, c.at)
		wantState(t, d, c.lens, len(c.lens) == 3)
	}
	wantNoStep(t, d, r, api.ErrState)
}

// 11.2: each field of 5 bits: those from 1 to 20 are lengths, of the others each step tells that they are none.
func TestFirstField(t *testing.T) {
	for v := range 32 {
		d, r := reader(t, 3), bits.NewReader(string([]byte{byte(v) << 3, 0}))
		if v >= 1 && v <= 20 {
			wantStep(t, d, r, api.OK, 5)
			wantStep(t, d, r, api.OK, 6)
			wantState(t, d, []int{v}, false)
			continue
		}
		wantStep(t, d, r, api.ErrTable, 5)
		for range 3 {
			wantNoStep(t, d, r, api.ErrTable)
		}
		wantState(t, d, nil, false)
	}
}

// 11.2: lengths go up to 20 and down to 1, and no further: then the place is behind the step, and each further one tells the same.
func TestBeyond(t *testing.T) {
	for _, c := range []struct {
		move     string
		from, to int
	}{{"10", 1, 20}, {"10", 20, 20}, {"11", 20, 1}, {"11", 1, 1}} {
		n := max(c.to-c.from, c.from-c.to)
		d := reader(t, 4)
		r := bits.NewReader(packed(plainBits([]int{c.from})[:5] + "0" + strings.Repeat(c.move, n) + "0" + c.move + "0000"))
		wantStep(t, d, r, api.OK, 5)
		wantStep(t, d, r, api.OK, 6)
		for i := range n {
			wantStep(t, d, r, api.OK, 8+2*i)
		}
		wantStep(t, d, r, api.OK, 7+2*n)
		wantState(t, d, []int{c.from, c.to}, false)
		wantStep(t, d, r, api.ErrTable, 9+2*n)
		for range 3 {
			wantNoStep(t, d, r, api.ErrTable)
		}
		wantState(t, d, []int{c.from, c.to}, false)
		wantNoStep(t, d, nil, api.ErrState)
		wantNoStep(t, d, bits.NewReader(""), api.ErrTable)
		wantNoStep(t, d, bits.NewReader("\x00\x00"), api.ErrTable)
	}
}

// 11.2: all rows of 16 bits, and what further steps tell behind the end, behind an error, or of too few bits.
func TestEachRow(t *testing.T) {
	for v := range 1 << 16 {
		s := string([]byte{byte(v >> 8), byte(v)})
		for _, size := range []int{3, 5} {
			m := &model{row: strconv.FormatInt(int64(1<<16+v), 2)[1:], size: size}
			d, r := reader(t, size), bits.NewReader(s)
			for e := api.OK; e == api.OK; {
				e = wantLike(t, d, r, m, 0)
			}
			wantLike(t, d, r, m, 0)
		}
	}
}

// 11.2: longer rows, from places on that are within a byte; and two readers at a time are apart.
func TestStepMany(t *testing.T) {
	random := rand.New(rand.NewSource(4))
	for i := range 2000 {
		skip, row := i%16, someRow(random)
		row += strings.Repeat("0", (16-(skip+len(row))%8)%8)
		r := bits.NewReader(packed(strings.Repeat("1", skip) + row))
		r.Seek(skip)
		m := &model{row: row, size: 3 + random.Intn(1<<random.Intn(9))}
		d, other := reader(t, m.size), reader(t, m.size)
		for e := api.OK; e == api.OK; {
			e = wantLike(t, d, r, m, skip)
			if random.Intn(4) == 0 {
				r.Drop()
			}
		}
		wantLike(t, d, r, m, skip)
		wantState(t, other, nil, false)
	}
}

// 11.2: bits that come byte by byte tell the same: what is too short goes on, when more come.
func TestStepInPieces(t *testing.T) {
	random := rand.New(rand.NewSource(5))
	shorts := 0
	for range 500 {
		row := someRow(random)
		row += strings.Repeat("0", (8-len(row)%8)%8)
		m := &model{size: 3 + random.Intn(1<<random.Intn(7))}
		d, r := reader(t, m.size), bits.NewReader("")
		for i := range len(row) / 8 {
			wantLike(t, d, r, m, 0)
			r.More(packed(row[8*i : 8*i+8]))
			m.row = row[:8*i+8]
			for e := api.OK; e == api.OK; {
				e = wantLike(t, d, r, m, 0)
				if e == api.ErrShort && r.Left() == 1 {
					shorts++
				}
			}
			r.Drop()
		}
	}
	if shorts == 0 {
		t.Error("no step was ever cut between its two bits")
	}
}

// 11.2: too few bits of each step, with the place at each bit of a byte.
func TestStepShort(t *testing.T) {
	for n := range 5 {
		for _, v := range []byte{0, 0xff, 0x2a} {
			d, r := reader(t, 3), bits.NewReader(string([]byte{v}))
			r.Seek(8 - n)
			wantNoStep(t, d, r, api.ErrShort)
			r.More("\x2a")
			r.Seek(8)
			wantStep(t, d, r, api.OK, 13)
		}
	}
	for _, second := range []string{"0", "1"} {
		d, r := reader(t, 3), bits.NewReader(packed("00101"+"0"+"0"+"1"))
		for at := 5; at <= 7; at++ {
			wantStep(t, d, r, api.OK, at)
		}
		wantNoStep(t, d, r, api.ErrShort)
		wantNoStep(t, d, r, api.ErrShort)
		r.More(packed(second + "0"))
		wantStep(t, d, r, api.OK, 9)
		wantStep(t, d, r, api.OK, 10)
		wantState(t, d, []int{5, 5, 6 - 2*int(second[0]-'0')}, true)
	}
}

// 11.2: of nil, of no bits, and behind the end.
func TestStepState(t *testing.T) {
	var none *delta.Reader
	r := bits.NewReader("\x08\x00")
	wantNoStep(t, none, r, api.ErrState)
	wantNoStep(t, none, nil, api.ErrState)
	wantState(t, none, nil, false)
	d := reader(t, 3)
	wantNoStep(t, d, nil, api.ErrState)
	for at := 5; at <= 8; at++ {
		wantStep(t, d, r, api.OK, at)
	}
	want := []int{1, 1, 1}
	wantState(t, d, want, true)
	for _, r := range []*bits.Reader{r, nil, bits.NewReader(""), bits.NewReader("\xff\xff")} {
		wantNoStep(t, d, r, api.ErrState)
	}
	wantState(t, d, want, true)
}

// R3: lengths that were told share nothing with the reader, nor with each other.
func TestLensApart(t *testing.T) {
	d, r := reader(t, 3), bits.NewReader(packed(plainBits([]int{7, 8, 9})))
	var told [][]int
	for !d.Done() {
		if e := d.Step(r); e != api.OK {
			t.Fatalf("Step: %v", e)
		}
		l := d.Lens()
		_ = append(l, -6)
		told = append(told, l)
	}
	for _, l := range told {
		for i := range l {
			l[i] = -5
		}
	}
	wantState(t, d, []int{7, 8, 9}, true)
}

// 11.3: wrong rows, of which the first error is told, and the place stays; what nil is, or no number, is told first (R1).
func TestReadErrors(t *testing.T) {
	for _, size := range []int{2, 3, 258, 259, -1} {
		if l, e := delta.Read(nil, size); len(l) != 0 || e != api.ErrState {
			t.Errorf("Read(nil, %d): %v, %v", size, l, e)
		}
	}
	for _, s := range []string{"", "\x00\x00", "\x08\x00", "\xff\xff"} {
		for _, size := range []int{2, 1, 0, -1, least, 259, 1<<32 + 3, greatest} {
			r := bits.NewReader(s)
			r.Seek(4 * len(s))
			wantRead(t, r, size, nil, api.ErrArg, 4*len(s))
		}
	}
	for _, c := range []struct {
		row  string
		size int
		want api.Errno
	}{
		{"", 3, api.ErrShort}, {"00000", 3, api.ErrTable}, {"10101", 3, api.ErrTable}, {"11111", 258, api.ErrTable}, {"00001 0 0", 3, api.ErrShort}, {"00001 0 0 1", 3, api.ErrShort},
		{"00001 11", 3, api.ErrTable}, {"10100 10", 3, api.ErrTable}, {"00001 0 0 11", 3, api.ErrTable}, {"10100 0 0 11 10 10", 3, api.ErrTable}, {"0000", 3, api.ErrShort}, {"00101 0 0 0", 4, api.ErrShort},
	} {
		row := strings.ReplaceAll(c.row, " ", "")
		for ahead := range 17 {
			skip := ahead + (24-(ahead+len(row))%8)%8
			r := bits.NewReader(packed(strings.Repeat("1", skip) + row))
			r.Seek(skip)
			r.Drop()
			wantRead(t, r, c.size, nil, c.want, skip)
			wantRead(t, r, c.size, nil, c.want, skip)
		}
	}
}

// 11.3: rows of all kinds: the first error of the steps, or the lengths.
func TestReadMany(t *testing.T) {
	random := rand.New(rand.NewSource(6))
	times := map[api.Errno]int{}
	for i := range 3000 {
		skip, row := i%16, someRow(random)
		row += strings.Repeat("0", (16-(skip+len(row))%8)%8)
		r := bits.NewReader(packed(strings.Repeat("1", skip) + row))
		r.Seek(skip)
		m := &model{row: row, size: 3 + random.Intn(1<<random.Intn(7))}
		e := m.read()
		times[e]++
		if e == api.OK {
			wantRead(t, r, m.size, m.lens, e, skip+m.at)
		} else {
			wantRead(t, r, m.size, nil, e, skip)
		}
	}
	if times[api.OK] < 50 || times[api.ErrTable] < 50 || times[api.ErrShort] < 50 {
		t.Errorf("too few of a kind: %v", times)
	}
}

// 11.4: read of what was written are the lengths, and nothing more is read.
func TestWriteAndRead(t *testing.T) {
	random := rand.New(rand.NewSource(7))
	check := func(lengths []int, ahead int) {
		w := bits.NewWriter()
		w.Put(0, ahead)
		wantWrite(t, w, lengths, api.OK)
		end := w.Len()
		w.Put(1<<random.Intn(20), 20)
		w.Pad()
		r := bits.NewReader(w.Take())
		r.Seek(ahead)
		wantRead(t, r, len(lengths), lengths, api.OK, end)
	}
	eachThree(func(lengths []int) { check(lengths, random.Intn(9)) })
	for n := 3; n <= 258; n++ {
		check(zigzag(n), n%9)
		for range 5 {
			check(someLengths(random, n), random.Intn(33))
		}
	}
}

// 11.4: rows of lengths, one behind the other.
func TestReadRows(t *testing.T) {
	random := rand.New(rand.NewSource(8))
	w := bits.NewWriter()
	var rows [][]int
	for range 200 {
		lengths := someLengths(random, 3+random.Intn(256))
		wantWrite(t, w, lengths, api.OK)
		rows = append(rows, lengths)
	}
	all := w.Len()
	w.Pad()
	r := bits.NewReader(w.Take())
	for _, lengths := range rows {
		n, _ := delta.Bits(lengths)
		wantRead(t, r, len(lengths), lengths, api.OK, r.At()+n)
	}
	if r.At() != all {
		t.Errorf("%d bits were written, and %d read", all, r.At())
	}
}
