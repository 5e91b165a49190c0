package picks_test

import (
	"math/rand"
	"slices"
	"strconv"
	"strings"
	"testing"

	"baler/api"
	"baler/bits"
	"baler/picks"
)

// model is a reader as the chapter tells it, of bits that are letters.
type model struct {
	row    string // all bits
	at     int    // the place among them
	tables int
	number int
	list   []int
	picks  []int
	wrong  bool
}

// done is whether all picks were read.
func (m *model) done() bool { return m.number > 0 && len(m.picks) == m.number }

// step is what a reader tells of a step.
func (m *model) step() api.Errno {
	switch {
	case m.done():
		return api.ErrState
	case m.wrong:
		return api.ErrData
	case m.number == 0:
		return m.first()
	}
	for place := range m.tables {
		ones := strings.Repeat("1", place)
		if strings.HasPrefix(m.row[m.at:], ones+"0") {
			pick := m.list[place]
			m.picks, m.at = append(m.picks, pick), m.at+place+1
			m.list = slices.Insert(slices.Delete(m.list, place, place+1), 0, pick)
			return api.OK
		}
		if place == m.tables-1 && strings.HasPrefix(m.row[m.at:], ones+"1") {
			m.wrong, m.at = true, m.at+place+1
			return api.ErrData
		}
	}
	return api.ErrShort
}

// first is what a reader tells of the first step.
func (m *model) first() api.Errno {
	if len(m.row)-m.at < 18 {
		return api.ErrShort
	}
	tables, _ := strconv.ParseInt(m.row[m.at:m.at+3], 2, 32)
	number, _ := strconv.ParseInt(m.row[m.at+3:m.at+18], 2, 32)
	m.at += 18
	m.wrong = tables < 2 || tables > 6 || number == 0
	if tables >= 2 && tables <= 6 {
		m.tables = int(tables)
	}
	if m.wrong {
		return api.ErrData
	}
	m.number = int(number)
	for table := range m.tables {
		m.list = append(m.list, table)
	}
	return api.OK
}

// read is the first error of all steps.
func (m *model) read() api.Errno {
	for !m.done() {
		if e := m.step(); e != api.OK {
			return e
		}
	}
	return api.OK
}

// reader is a new reader.
func reader(t *testing.T) *picks.Reader {
	t.Helper()
	p := picks.NewReader()
	if p == nil {
		t.Fatal("NewReader: nil")
	}
	wantState(t, p, 0, nil, false)
	return p
}

// wantState fails unless a reader has read these, and is done or not; asked twice, for looking changes nothing.
func wantState(t *testing.T, p *picks.Reader, tables int, want []int, done bool) {
	t.Helper()
	for range 2 {
		if l := p.Picks(); !slices.Equal(l, want) || p.Tables() != tables || p.Done() != done {
			t.Fatalf("Picks %v of %d, Done %v, not %v of %d, %v", short(l), p.Tables(), p.Done(), short(want), tables, done)
		}
	}
}

// wantStep fails unless a step tells this, and the place is then behind so many bits.
func wantStep(t *testing.T, p *picks.Reader, r *bits.Reader, want api.Errno, at int) {
	t.Helper()
	from, end := r.At(), r.At()+r.Left()
	if e := p.Step(r); e != want || r.At() != at || r.At()+r.Left() != end {
		t.Fatalf("Step at %d: %v, and the place is %d, not %v, %d", from, e, r.At(), want, at)
	}
}

// wantNoStep fails unless a step tells an error, and changes nothing.
func wantNoStep(t *testing.T, p *picks.Reader, r *bits.Reader, want api.Errno) {
	t.Helper()
	tables, l, done, held := p.Tables(), p.Picks(), p.Done(), r.Held()
	wantStep(t, p, r, want, r.At())
	wantState(t, p, tables, l, done)
	if r.Held() != held {
		t.Fatalf("Step: %d bytes are held, not %d", r.Held(), held)
	}
}

// wantLike fails unless a step does as the model's does, with bits that begin behind skip others.
func wantLike(t *testing.T, p *picks.Reader, r *bits.Reader, m *model, skip int) api.Errno {
	t.Helper()
	e := m.step()
	if e == api.OK || e == api.ErrData {
		wantStep(t, p, r, e, skip+m.at)
	} else {
		wantNoStep(t, p, r, e)
	}
	wantState(t, p, m.tables, m.picks, m.done())
	return e
}

// wantRead fails unless Read tells this, and the place is then behind so many bits.
func wantRead(t *testing.T, r *bits.Reader, want []int, tables int, err api.Errno, at int) {
	t.Helper()
	if l, n, e := picks.Read(r); !slices.Equal(l, want) || n != tables || e != err || r.At() != at {
		t.Fatalf("Read: %v of %d, %v at %d, not %v of %d, %v at %d", short(l), n, e, r.At(), short(want), tables, err, at)
	}
}

// someRow are bits by which picks are often read, and often go wrong late.
func someRow(random *rand.Rand) string {
	tables, number := 2+random.Intn(5), 1+random.Intn(1<<random.Intn(8))
	if random.Intn(10) == 0 {
		tables = random.Intn(8)
	}
	if random.Intn(10) == 0 {
		number = random.Intn(32768) * random.Intn(2)
	}
	var row strings.Builder
	row.WriteString(field(tables, 3) + field(number, 15))
	for range min(number, 300) {
		most := max(tables, 1)
		if random.Intn(2*number+1) == 0 {
			most++
		}
		row.WriteString(strings.Repeat("1", random.Intn(most)) + "0")
	}
	return row.String()
}

// padded is a row with bits 1 ahead of it, so many that it ends with a byte, and how many these are.
func padded(row string) (string, int) {
	skip := 8 + (8-len(row)%8)%8
	return packed(strings.Repeat("1", skip) + row), skip
}

// 13.2: the document's example, step by step.
func TestSteps(t *testing.T) {
	p, r := reader(t), bits.NewReader(packed("010"+"000000000000011"+"10"+"0"+"10"+"1111"))
	for _, c := range []struct {
		at    int
		picks []int
	}{{18, nil}, {20, []int{1}}, {21, []int{1, 1}}, {23, []int{1, 1, 0}}} {
		wantStep(t, p, r, api.OK, c.at)
		wantState(t, p, 2, c.picks, len(c.picks) == 3)
	}
	wantNoStep(t, p, r, api.ErrState)
}

// 13.2: all numbers of tables, with few picks, many and none: 2 to 6 tables with some picks are all that may be.
func TestFields(t *testing.T) {
	for tables := range 8 {
		for _, number := range []int{0, 1, 2, 127, 128, 255, 256, 16384, 32766, 32767} {
			p, r := reader(t), bits.NewReader(packed(field(tables, 3)+field(number, 15)+"000000"))
			known := tables
			if tables < 2 || tables > 6 {
				known = 0
			}
			if known > 0 && number > 0 {
				wantStep(t, p, r, api.OK, 18)
				wantState(t, p, tables, nil, false)
				wantStep(t, p, r, api.OK, 19)
				wantState(t, p, tables, []int{0}, number == 1)
				continue
			}
			wantStep(t, p, r, api.ErrData, 18)
			for range 3 {
				wantNoStep(t, p, r, api.ErrData)
			}
			wantState(t, p, known, nil, false)
		}
	}
}

// 13.2: all rows of 10 bits behind the fields, and what further steps tell behind the end, behind an error, or of too few bits.
func TestEachRow(t *testing.T) {
	for tables := 2; tables <= 6; tables++ {
		for number := 1; number <= 6; number++ {
			for v := range 1 << 10 {
				row := field(tables, 3) + field(number, 15) + field(v, 10)
				s, skip := padded(row)
				m, p, r := &model{row: row}, reader(t), bits.NewReader(s)
				r.Seek(skip)
				for e := api.OK; e == api.OK; {
					e = wantLike(t, p, r, m, skip)
				}
				wantLike(t, p, r, m, skip)
			}
		}
	}
}

// 13.2: longer rows, from places on that are within a byte; and two readers at a time are apart.
func TestStepMany(t *testing.T) {
	random := rand.New(rand.NewSource(3))
	times := map[api.Errno]int{}
	for i := range 2000 {
		skip, row := i%16, someRow(random)
		row += strings.Repeat("0", (16-(skip+len(row))%8)%8)
		r := bits.NewReader(packed(strings.Repeat("1", skip) + row))
		r.Seek(skip)
		m, p, other := &model{row: row}, reader(t), reader(t)
		for e := api.OK; e == api.OK; {
			e = wantLike(t, p, r, m, skip)
			times[e]++
			if random.Intn(4) == 0 {
				r.Drop()
			}
		}
		wantLike(t, p, r, m, skip)
		wantState(t, other, 0, nil, false)
	}
	if times[api.ErrState] < 50 || times[api.ErrData] < 50 || times[api.ErrShort] < 50 {
		t.Errorf("too few of a kind: %v", times)
	}
}

// 13.2: bits that come byte by byte tell the same: what is too short goes on, when more come.
func TestStepInPieces(t *testing.T) {
	random := rand.New(rand.NewSource(4))
	shorts := 0
	for range 500 {
		row := someRow(random)
		row += strings.Repeat("0", (8-len(row)%8)%8)
		m, p, r := &model{}, reader(t), bits.NewReader("")
		for i := range len(row) / 8 {
			wantLike(t, p, r, m, 0)
			r.More(packed(row[8*i : 8*i+8]))
			m.row = row[:8*i+8]
			for e := api.OK; e == api.OK; {
				e = wantLike(t, p, r, m, 0)
				if e == api.ErrShort && r.Left() > 0 && m.number > 0 {
					shorts++
				}
			}
			r.Drop()
		}
	}
	if shorts == 0 {
		t.Error("no pick was ever cut between its bits")
	}
}

// 13.2: too few bits for the fields, whatever they begin with, also if what there is of them may not be.
func TestFieldsShort(t *testing.T) {
	for n := range 18 {
		for tables := range 8 {
			s, skip := padded((field(tables, 3) + strings.Repeat("0", 15))[:n])
			p, r := reader(t), bits.NewReader(s)
			r.Seek(skip)
			wantNoStep(t, p, r, api.ErrShort)
			wantNoStep(t, p, r, api.ErrShort)
			wantRead(t, r, nil, 0, api.ErrShort, skip)
		}
	}
}

// 13.2: a pick that is cut short waits, unless it has as many bits 1 as there are tables: that is told, though no bit be behind.
func TestPickShort(t *testing.T) {
	for tables := 2; tables <= 6; tables++ {
		head := field(tables, 3) + field(2, 15)
		for _, first := range []string{"", "0", "10"} {
			for ones := range tables + 1 {
				s, skip := padded(head + first + strings.Repeat("1", ones))
				p, r := reader(t), bits.NewReader(s)
				r.Seek(skip)
				wantStep(t, p, r, api.OK, skip+18)
				if first != "" {
					wantStep(t, p, r, api.OK, skip+18+len(first))
				}
				if ones == tables {
					read := p.Picks()
					wantStep(t, p, r, api.ErrData, skip+18+len(first)+ones)
					wantState(t, p, tables, read, false)
					wantNoStep(t, p, r, api.ErrData)
					continue
				}
				wantNoStep(t, p, r, api.ErrShort)
				wantNoStep(t, p, r, api.ErrShort)
				r.More("\x00")
				wantStep(t, p, r, api.OK, skip+18+len(first)+ones+1)
			}
		}
	}
}

// 13.2: behind what may not be, each further step tells the same, and reads nothing, of other readers too.
func TestStepWrong(t *testing.T) {
	for _, row := range []string{"010" + field(0, 15), "111" + field(3, 15), "000" + field(0, 15), "010" + field(3, 15) + "10" + "11", "110" + field(1, 15) + "111111"} {
		s, skip := padded(row)
		p, r := reader(t), bits.NewReader(s+"\x00")
		r.Seek(skip)
		for e := api.OK; e == api.OK; {
			e = p.Step(r)
		}
		if r.At() != skip+len(row) {
			t.Errorf("%s: the place is %d, not %d", row, r.At(), skip+len(row))
		}
		for _, other := range []*bits.Reader{r, bits.NewReader(""), bits.NewReader("\x40\x00\x40"), bits.NewReader("\x00\x00\x00")} {
			wantNoStep(t, p, other, api.ErrData)
		}
		wantNoStep(t, p, nil, api.ErrState)
		wantNoStep(t, p, r, api.ErrData)
	}
}

// 13.2: of nil, of no bits, and behind the end.
func TestStepState(t *testing.T) {
	var none *picks.Reader
	r := bits.NewReader("\x40\x00\x40")
	wantNoStep(t, none, r, api.ErrState)
	wantNoStep(t, none, nil, api.ErrState)
	wantState(t, none, 0, nil, false)
	p := reader(t)
	wantNoStep(t, p, nil, api.ErrState)
	wantStep(t, p, r, api.OK, 18)
	wantNoStep(t, p, nil, api.ErrState)
	wantStep(t, p, r, api.OK, 19)
	wantState(t, p, 2, []int{0}, true)
	for _, r := range []*bits.Reader{r, nil, bits.NewReader(""), bits.NewReader("\xff\xff\xff")} {
		wantNoStep(t, p, r, api.ErrState)
	}
	wantState(t, p, 2, []int{0}, true)
}

// R3: picks that were told share nothing with the reader, nor with each other.
func TestPicksApart(t *testing.T) {
	want := []int{2, 2, 0, 1, 1, 2, 0}
	p, r := reader(t), bits.NewReader(packed(plainBits(want, 3)))
	var told [][]int
	for !p.Done() {
		if e := p.Step(r); e != api.OK {
			t.Fatalf("Step: %v", e)
		}
		l := p.Picks()
		_ = append(l, -6)
		told = append(told, l)
	}
	for _, l := range told {
		for i := range l {
			l[i] = -5
		}
	}
	wantState(t, p, 3, want, true)
}

// 13.3: wrong rows, of which the first error is told, and the place stays; a nil reader is told first.
func TestReadErrors(t *testing.T) {
	if l, n, e := picks.Read(nil); len(l) != 0 || n != 0 || e != api.ErrState {
		t.Errorf("Read(nil): %v, %d, %v", l, n, e)
	}
	for _, c := range []struct {
		row  string
		want api.Errno
	}{
		{"", api.ErrShort}, {"010", api.ErrShort}, {"010" + field(1, 15), api.ErrShort}, {"010" + field(1, 15)[:14], api.ErrShort},
		{"000" + field(1, 15), api.ErrData}, {"001" + field(1, 15) + "0", api.ErrData}, {"111" + field(1, 15) + "0", api.ErrData}, {"010" + field(0, 15), api.ErrData},
		{"010" + field(1, 15) + "1", api.ErrShort}, {"010" + field(1, 15) + "11", api.ErrData}, {"010" + field(3, 15) + "0 10 11", api.ErrData},
		{"010" + field(3, 15) + "0 10 1", api.ErrShort}, {"010" + field(3, 15) + "0 10", api.ErrShort}, {"110" + field(2, 15) + "111110 11111", api.ErrShort},
		{"110" + field(2, 15) + "111110 111111", api.ErrData}, {"101" + field(1, 15) + "11111 0", api.ErrData}, {"010" + field(32767, 15) + strings.Repeat("0", 32766), api.ErrShort},
	} {
		row := strings.ReplaceAll(c.row, " ", "")
		for ahead := range 17 {
			skip := ahead + (24-(ahead+len(row))%8)%8
			r := bits.NewReader(packed(strings.Repeat("1", skip) + row))
			r.Seek(skip)
			r.Drop()
			wantRead(t, r, nil, 0, c.want, skip)
			wantRead(t, r, nil, 0, c.want, skip)
		}
	}
}

// 13.3: rows of all kinds: the first error of the steps, or the picks and how many tables there are.
func TestReadMany(t *testing.T) {
	random := rand.New(rand.NewSource(5))
	times := map[api.Errno]int{}
	for i := range 3000 {
		skip, row := i%16, someRow(random)
		row += strings.Repeat("0", (16-(skip+len(row))%8)%8)
		r := bits.NewReader(packed(strings.Repeat("1", skip) + row))
		r.Seek(skip)
		m := &model{row: row}
		e := m.read()
		times[e]++
		if e == api.OK {
			wantRead(t, r, m.picks, m.tables, e, skip+m.at)
		} else {
			wantRead(t, r, nil, 0, e, skip)
		}
	}
	if times[api.OK] < 50 || times[api.ErrData] < 50 || times[api.ErrShort] < 50 {
		t.Errorf("too few of a kind: %v", times)
	}
}

// 13.4: read of what was written are the picks and how many tables there are, and nothing more is read.
func TestWriteAndRead(t *testing.T) {
	random := rand.New(rand.NewSource(6))
	check := func(l []int, tables, ahead int) {
		w := bits.NewWriter()
		w.Put(0, ahead)
		wantWrite(t, w, l, tables, api.OK)
		end := w.Len()
		w.Put(1<<random.Intn(20), 20)
		w.Pad()
		r := bits.NewReader(w.Take())
		r.Seek(ahead)
		wantRead(t, r, l, tables, api.OK, end)
	}
	for tables := 2; tables <= 6; tables++ {
		for n := 1; n <= 5; n++ {
			eachRow(n, tables, func(l []int) { check(l, tables, random.Intn(9)) })
		}
		for range 300 {
			check(somePicks(random, 1+random.Intn(1<<random.Intn(11)), tables), tables, random.Intn(33))
		}
		for _, n := range []int{16384, 32766, 32767} {
			check(somePicks(random, n, tables), tables, random.Intn(33))
		}
	}
}

// 13.4: rows of picks, one behind the other.
func TestReadRows(t *testing.T) {
	random := rand.New(rand.NewSource(7))
	w := bits.NewWriter()
	var rows [][]int
	for i := range 200 {
		l := somePicks(random, 1+random.Intn(200), 2+i%5)
		wantWrite(t, w, l, 2+i%5, api.OK)
		rows = append(rows, l)
	}
	all := w.Len()
	w.Pad()
	r := bits.NewReader(w.Take())
	for i, l := range rows {
		n, _ := picks.Bits(l, 2+i%5)
		wantRead(t, r, l, 2+i%5, api.OK, r.At()+n)
	}
	if r.At() != all {
		t.Errorf("%d bits were written, and %d read", all, r.At())
	}
}
