package code_test

import (
	"math/rand"
	"slices"
	"strconv"
	"strings"
	"testing"

	"baler/api"
	"baler/bits"
	"baler/code"
	"baler/tables"
)

// model is a reader as the chapter tells it, of bits that are letters.
type model struct {
	row    string // all bits
	at     int    // the place among them
	size   int
	tables int
	number int
	list   []int
	picks  []int
	last   int // the length that was told last; 0, if none was
	lens   []int
	codes  [][]string
	held   int
	count  int
	done   bool
	wrong  api.Errno
}

// take goes on, if the row goes on with these bits, and tells whether it does.
func (m *model) take(bits string) bool {
	there := strings.HasPrefix(m.row[m.at:], bits)
	if there {
		m.at += len(bits)
	}
	return there
}

// number is what the next n bits tell; it is -1, if there are too few.
func (m *model) field(n int) int {
	if len(m.row)-m.at < n {
		return -1
	}
	v, _ := strconv.ParseInt(m.row[m.at:m.at+n], 2, 32)
	m.at += n
	return int(v)
}

// step is what a reader tells of a step.
func (m *model) step() (int, api.Errno) {
	if m.done {
		return 0, api.ErrState
	}
	if m.wrong != api.OK {
		return 0, m.wrong
	}
	symbol, e := -1, api.OK
	switch {
	case m.number == 0:
		e = m.fields()
	case len(m.picks) < m.number:
		e = m.pick()
	case len(m.codes) < m.tables:
		e = m.length()
	default:
		symbol, e = m.symbol()
	}
	if e != api.OK {
		symbol = 0
	}
	if e != api.ErrShort {
		m.wrong = e
	}
	return symbol, e
}

// fields reads how many tables and picks there are.
func (m *model) fields() api.Errno {
	both := m.field(18)
	if both < 0 {
		return api.ErrShort
	}
	m.tables, m.number = both>>15, both&32767
	if m.tables < 2 || m.tables > 6 || m.number == 0 {
		return api.ErrData
	}
	for table := range m.tables {
		m.list = append(m.list, table)
	}
	return api.OK
}

// pick reads a pick.
func (m *model) pick() api.Errno {
	if m.take(strings.Repeat("1", m.tables)) {
		return api.ErrData
	}
	for place := range m.tables {
		if m.take(strings.Repeat("1", place) + "0") {
			pick := m.list[place]
			m.list = slices.Insert(slices.Delete(m.list, place, place+1), 0, pick)
			m.picks = append(m.picks, pick)
			m.held++
			return api.OK
		}
	}
	return api.ErrShort
}

// length reads a step of a table's lengths.
func (m *model) length() api.Errno {
	switch {
	case m.last == 0:
		first := m.field(5)
		if first < 0 {
			return api.ErrShort
		}
		m.last = first
	case m.take("0"):
		m.lens = append(m.lens, m.last)
	case m.take("10"):
		m.last++
	case m.take("11"):
		m.last--
	default:
		return api.ErrShort
	}
	if m.last < 1 || m.last > 20 {
		return api.ErrTable
	}
	if len(m.lens) == m.size {
		return m.table()
	}
	return api.OK
}

// table takes a table whose lengths were all read.
func (m *model) table() api.Errno {
	share := 0
	for _, length := range m.lens {
		share += 1 << (20 - length)
	}
	if share != 1<<20 {
		return api.ErrTable
	}
	m.codes = append(m.codes, plainCodes(m.lens))
	m.held += m.size
	m.last, m.lens = 0, nil
	return api.OK
}

// symbol reads a symbol.
func (m *model) symbol() (int, api.Errno) {
	group := m.count / 50
	if group >= len(m.picks) {
		return 0, api.ErrData
	}
	for symbol, bits := range m.codes[m.picks[group]] {
		if m.take(bits) {
			m.count++
			m.done = symbol == m.size-1
			return symbol, api.OK
		}
	}
	return 0, api.ErrShort
}

// read are the symbols of all steps, of which there may be so many, or the first error.
func (m *model) read(most int) ([]int, api.Errno) {
	var l []int
	for !m.done {
		symbol, e := m.step()
		if e != api.OK {
			return nil, e
		}
		if symbol >= 0 {
			l = append(l, symbol)
		}
		if len(l) > most {
			return nil, api.ErrLong
		}
	}
	return l, api.OK
}

// reader is a new reader of so many symbols; it fails, if there is none.
func reader(t *testing.T, size int) *code.Reader {
	t.Helper()
	c, e := code.NewReader(size)
	if c == nil || e != api.OK {
		t.Fatalf("NewReader(%d): %v, %v", size, c != nil, e)
	}
	wantState(t, c, 0, 0, false)
	return c
}

// wantState fails unless a reader has read and keeps so many, and is done or not; asked twice, for looking changes nothing.
func wantState(t *testing.T, c *code.Reader, count, held int, done bool) {
	t.Helper()
	for range 2 {
		if c.Count() != count || c.Held() != held || c.Done() != done {
			t.Fatalf("Count %d, Held %d, Done %v, not %d, %d, %v", c.Count(), c.Held(), c.Done(), count, held, done)
		}
	}
}

// wantStep fails unless a step tells this, and the place is then behind so many bits.
func wantStep(t *testing.T, c *code.Reader, r *bits.Reader, want int, err api.Errno, at int) {
	t.Helper()
	from, end := r.At(), r.At()+r.Left()
	if symbol, e := c.Step(r); symbol != want || e != err || r.At() != at || r.At()+r.Left() != end {
		t.Fatalf("Step at %d: %d, %v, and the place is %d, not %d, %v, %d", from, symbol, e, r.At(), want, err, at)
	}
}

// wantNoStep fails unless a step tells an error, and changes nothing.
func wantNoStep(t *testing.T, c *code.Reader, r *bits.Reader, want api.Errno) {
	t.Helper()
	count, held, done, bytes := c.Count(), c.Held(), c.Done(), r.Held()
	wantStep(t, c, r, 0, want, r.At())
	wantState(t, c, count, held, done)
	if r.Held() != bytes {
		t.Fatalf("Step: %d bytes are held, not %d", r.Held(), bytes)
	}
}

// wantLike fails unless a step does as the model's does, with bits that begin behind skip others.
func wantLike(t *testing.T, c *code.Reader, r *bits.Reader, m *model, skip int) api.Errno {
	t.Helper()
	symbol, e := m.step()
	wantStep(t, c, r, symbol, e, skip+m.at)
	wantState(t, c, m.count, m.held, m.done)
	return e
}

// wantRead fails unless Read tells this, and the place is then behind so many bits.
func wantRead(t *testing.T, r *bits.Reader, size, most int, want []int, err api.Errno, at int) {
	t.Helper()
	if l, e := code.Read(r, size, most); !slices.Equal(l, want) || e != err || r.At() != at {
		t.Fatalf("Read(%d, %d): %v, %v at %d, not %v, %v at %d", size, most, short(l), e, r.At(), short(want), err, at)
	}
}

// someWhole are lengths of a whole code: one of 0 is split in two again and again.
func someWhole(random *rand.Rand, n int) []int {
	lengths := []int{0}
	deep := random.Intn(2) == 0
	for len(lengths) < n {
		i := random.Intn(len(lengths))
		if deep && random.Intn(4) > 0 {
			i = len(lengths) - 1
		}
		if lengths[i] < 20 {
			lengths[i]++
			lengths = append(lengths, lengths[i])
		}
	}
	random.Shuffle(n, func(i, j int) { lengths[i], lengths[j] = lengths[j], lengths[i] })
	return lengths
}

// someChoice are tables of whole codes, and so many picks of them.
func someChoice(random *rand.Rand, size, number int) tables.Choice {
	var c tables.Choice
	for range 2 + random.Intn(5) {
		c.Lens = append(c.Lens, someWhole(random, size))
	}
	for range number {
		c.Picks = append(c.Picks, random.Intn(len(c.Lens)))
	}
	return c
}

// someRow are bits by which a row of a size is often read, and often goes wrong late.
func someRow(random *rand.Rand, size int) string {
	n := random.Intn(1 + random.Intn(200))
	c := someChoice(random, size, 1+n/50+random.Intn(3))
	l := someSymbols(random, n, size)
	if random.Intn(6) == 0 && len(l) > 50 {
		c.Picks = c.Picks[:1+random.Intn(len(c.Picks)-1)]
		l = l[:min(len(l), 50*len(c.Picks))]
		l[len(l)-1] = 0
	}
	if random.Intn(6) == 0 {
		lengths := c.Lens[random.Intn(len(c.Lens))]
		i := random.Intn(size)
		lengths[i] = min(max(lengths[i]+1-2*random.Intn(2), 1), 19) // often no whole code, and never a length that is none
	}
	row := plainWrong(l, c)
	if random.Intn(6) == 0 {
		i := random.Intn(len(row))
		row = row[:i] + string('0'+'1'-row[i]) + row[i+1:]
	}
	if random.Intn(6) == 0 {
		row = row[:random.Intn(len(row))]
	}
	return row
}

// plainWrong are a row's bits by a choice, of which a table may be no whole code: then no symbols are behind the tables.
func plainWrong(l []int, c tables.Choice) string {
	for _, lengths := range c.Lens {
		share := 0
		for _, length := range lengths {
			share += 1 << (20 - length)
		}
		if share != 1<<20 {
			return plainRow(nil, c)
		}
	}
	return plainRow(l, c)
}

// padded is a row with bits 1 ahead of it, so many that it ends with a byte, and how many these are.
func padded(row string) (string, int) {
	skip := 8 + (8-len(row)%8)%8
	return packed(strings.Repeat("1", skip) + row), skip
}

// behind is a reader whose place is behind so many bits.
func behind(s string, skip int) *bits.Reader {
	r := bits.NewReader(s)
	r.Seek(skip)
	return r
}

// joined is a row by hand, without what keeps its parts apart.
func joined(row string) string { return strings.NewReplacer(" ", "", "|", "").Replace(row) }

// example is the row 0 2 of size 3.
const example = "010 000000000000001 0 | 00010 0 0 11 0 | 00010 0 0 11 0 | 10 0"

// 14.2: readers of all sizes, and of what is none.
func TestNewReader(t *testing.T) {
	for size := 3; size <= 258; size++ {
		reader(t, size)
	}
	for _, size := range []int{2, 1, 0, -1, -3, least, 259, 260, 1 << 32, 1<<32 + 3, greatest} {
		if c, e := code.NewReader(size); c != nil || e != api.ErrArg {
			t.Errorf("NewReader(%d): %v, %v", size, c != nil, e)
		}
	}
}

// 14.2, 14.3: the document's example, step by step: what is kept are the pick, and then each table's lengths at once.
func TestSteps(t *testing.T) {
	c, r := reader(t, 3), bits.NewReader(packed(joined(example)+"111111"))
	for _, step := range []struct{ symbol, at, count, held int }{
		{-1, 18, 0, 0}, {-1, 19, 0, 1}, {-1, 24, 0, 1}, {-1, 25, 0, 1}, {-1, 26, 0, 1}, {-1, 28, 0, 1}, {-1, 29, 0, 4},
		{-1, 34, 0, 4}, {-1, 35, 0, 4}, {-1, 36, 0, 4}, {-1, 38, 0, 4}, {-1, 39, 0, 7}, {0, 41, 1, 7}, {2, 42, 2, 7},
	} {
		wantStep(t, c, r, step.symbol, api.OK, step.at)
		wantState(t, c, step.count, step.held, step.at == 42)
	}
	wantNoStep(t, c, r, api.ErrState)
}

// 14.2: each step's error by hand, what is read and kept then, and that each further step tells the same, and reads nothing, of other readers too.
func TestStepErrors(t *testing.T) {
	table := "00010 0 0 11 0"
	for _, c := range []struct {
		row         string
		size        int
		want        api.Errno
		count, held int
	}{
		{"001 000000000000001", 3, api.ErrData, 0, 0}, {"111 000000000000001", 3, api.ErrData, 0, 0}, {"010 000000000000000", 3, api.ErrData, 0, 0},
		{"010 000000000000001 11", 3, api.ErrData, 0, 0}, {"010 000000000000011 10 0 11", 3, api.ErrData, 0, 2}, {"110 000000000000001 111111", 3, api.ErrData, 0, 0},
		{"010 000000000000001 0 | 00000", 3, api.ErrTable, 0, 1}, {"010 000000000000001 0 | 10101", 3, api.ErrTable, 0, 1}, {"010 000000000000001 0 | 10100 10", 3, api.ErrTable, 0, 1},
		{"010 000000000000001 0 | 00001 0 11", 3, api.ErrTable, 0, 1}, {"010 000000000000001 0 | 00010 0 0 0", 3, api.ErrTable, 0, 1}, {"010 000000000000001 0 | 00001 0 0 0", 3, api.ErrTable, 0, 1},
		{"010 000000000000001 0 |" + table + "00010 0 0 0", 3, api.ErrTable, 0, 4}, {"010 000000000000001 0 |" + table + "00001 0 0 10 0", 3, api.ErrTable, 0, 4},
		{"010 000000000000001 0 |" + table + table + strings.Repeat("10", 50), 3, api.ErrData, 50, 7},
		{"010 000000000000010 0 0 |" + table + table + strings.Repeat("11", 100), 3, api.ErrData, 100, 8},
		{"011 000000000000010 0 0 | 00010 0 0 0 0 | 00010 0 0 0 0 | 00010 0 0 0 0 |" + strings.Repeat("00", 100), 4, api.ErrData, 100, 14},
	} {
		row := joined(c.row)
		s, skip := padded(row)
		for _, more := range []string{"", "\x00\x00", "\xff"} {
			d, r := reader(t, c.size), behind(s+more, skip)
			e := api.OK
			for e == api.OK {
				_, e = d.Step(r)
			}
			if e != c.want || r.At() != skip+len(row) {
				t.Fatalf("%s: %v at %d, not %v at %d", c.row, e, r.At(), c.want, skip+len(row))
			}
			wantState(t, d, c.count, c.held, false)
			for _, other := range []*bits.Reader{r, bits.NewReader(""), bits.NewReader(packed(joined(example))), bits.NewReader("\x00\x00\x00")} {
				wantNoStep(t, d, other, c.want)
			}
			wantNoStep(t, d, nil, api.ErrState)
			wantNoStep(t, d, r, c.want)
		}
	}
}

// 14.2: a group ends with its fiftieth symbol: the next one is of the next pick's table, and if the fiftieth is the end, no further pick is asked for.
func TestGroups(t *testing.T) {
	head := "010 000000000000010 0 10 | 00001 0 10 0 0 | 00010 0 0 11 0 |"
	row := joined(head + strings.Repeat("0", 50) + "10" + "0")
	want := append(make([]int, 51), 2)
	s, skip := padded(row)
	wantRead(t, behind(s, skip), 3, 52, want, api.OK, skip+len(row))
	row = joined("010 000000000000001 0 | 00001 0 10 0 0 | 00001 0 10 0 0 |" + strings.Repeat("0", 49) + "11")
	s, skip = padded(row)
	wantRead(t, behind(s, skip), 3, 50, append(make([]int, 49), 2), api.OK, skip+len(row))
}

// 14.2: the bits of a whole row cut at each place: too few of them wait, and go on with the others.
func TestStepShort(t *testing.T) {
	random := rand.New(rand.NewSource(5))
	for _, size := range []int{3, 4, 7, 20} {
		c := someChoice(random, size, 3)
		row := plainRow(someSymbols(random, 60, size), c)
		for cut := range len(row) {
			s, skip := padded(row[:cut])
			m, d, r := &model{row: row[:cut], size: size}, reader(t, size), behind(s, skip)
			for e := api.OK; e == api.OK; {
				e = wantLike(t, d, r, m, skip)
			}
			wantNoStep(t, d, r, api.ErrShort)
			wantNoStep(t, d, r, api.ErrShort)
			rest := row[cut:] + strings.Repeat("0", (8-len(row[cut:])%8)%8)
			r.More(packed(rest))
			m.row += rest
			for e := api.OK; e == api.OK; {
				e = wantLike(t, d, r, m, skip)
			}
			if !d.Done() || m.at != len(row) {
				t.Fatalf("cut at %d: Done %v at %d of %d", cut, d.Done(), m.at, len(row))
			}
		}
	}
}

// 14.2, 14.3: rows of all kinds, from places on that are within a byte; and two readers at a time are apart.
func TestStepMany(t *testing.T) {
	random := rand.New(rand.NewSource(6))
	times := map[api.Errno]int{}
	for i := range 2000 {
		size := someSize(random)
		skip, row := i%16, someRow(random, size)
		row += strings.Repeat("0", (16-(skip+len(row))%8)%8)
		r := behind(packed(strings.Repeat("1", skip)+row), skip)
		m, c, other := &model{row: row, size: size}, reader(t, size), reader(t, size)
		for e := api.OK; e == api.OK; {
			e = wantLike(t, c, r, m, skip)
			times[e]++
			if random.Intn(4) == 0 {
				r.Drop()
			}
		}
		wantLike(t, c, r, m, skip)
		wantState(t, other, 0, 0, false)
	}
	if times[api.ErrState] < 50 || times[api.ErrData] < 50 || times[api.ErrTable] < 50 || times[api.ErrShort] < 50 {
		t.Errorf("too few of a kind: %v", times)
	}
}

// 14.2: bits that come byte by byte tell the same: what is too short goes on, when more come.
func TestStepInPieces(t *testing.T) {
	random := rand.New(rand.NewSource(7))
	ends := 0
	for range 300 {
		size := someSize(random)
		row := someRow(random, size)
		row += strings.Repeat("0", (8-len(row)%8)%8)
		m, c, r := &model{size: size}, reader(t, size), bits.NewReader("")
		for i := range len(row) / 8 {
			wantLike(t, c, r, m, 0)
			r.More(packed(row[8*i : 8*i+8]))
			m.row = row[:8*i+8]
			for e := api.OK; e == api.OK; {
				e = wantLike(t, c, r, m, 0)
			}
			r.Drop()
		}
		if c.Done() {
			ends++
		}
	}
	if ends < 50 {
		t.Errorf("only %d rows were read", ends)
	}
}

// 14.2: each number of tables and picks that the fields may tell.
func TestFields(t *testing.T) {
	for both := range 1 << 18 {
		if number := both & 32767; number > 9 && number < 32760 && number%4099 != 0 {
			continue
		}
		row := field(both, 18) + "000000"
		m, c, r := &model{row: row, size: 3}, reader(t, 3), bits.NewReader(packed(row))
		for e := api.OK; e == api.OK; {
			e = wantLike(t, c, r, m, 0)
		}
	}
}

// 14.2: of nil, of no bits, behind the end, and of a reader that NewReader did not make.
func TestStepState(t *testing.T) {
	var none *code.Reader
	var raw code.Reader
	r := bits.NewReader(packed(joined(example)))
	for _, c := range []*code.Reader{none, &raw} {
		wantNoStep(t, c, r, api.ErrState)
		wantNoStep(t, c, nil, api.ErrState)
		wantState(t, c, 0, 0, false)
	}
	c := reader(t, 3)
	for !c.Done() {
		wantNoStep(t, c, nil, api.ErrState)
		wantNoStep(t, c, bits.NewReader(""), api.ErrShort)
		if _, e := c.Step(r); e != api.OK {
			t.Fatalf("Step: %v", e)
		}
	}
	for _, r := range []*bits.Reader{r, nil, bits.NewReader(""), bits.NewReader(packed(joined(example)))} {
		wantNoStep(t, c, r, api.ErrState)
	}
	wantState(t, c, 2, 7, true)
}

// 14.3: as many numbers are kept as may ever be.
func TestHeldMost(t *testing.T) {
	random := rand.New(rand.NewSource(8))
	choice := someChoice(random, 258, 32767)
	choice.Lens = nil
	for range 6 {
		choice.Lens = append(choice.Lens, someWhole(random, 258))
	}
	row := plainRow([]int{257}, choice)
	c, r := reader(t, 258), bits.NewReader(packed(row))
	for i := 0; !c.Done(); i++ {
		if _, e := c.Step(r); e != api.OK {
			t.Fatalf("Step: %v", e)
		}
		if i <= 32767 {
			wantState(t, c, 0, i, false)
		}
	}
	wantState(t, c, 1, 32767+6*258, true)
}

// 14.4: what is nil, or no size, or no number, is told first (R1), and the place stays.
func TestReadErrors(t *testing.T) {
	for _, size := range []int{2, 3, 258, 259, -1} {
		for _, most := range []int{-1, 0, 9} {
			if l, e := code.Read(nil, size, most); len(l) != 0 || e != api.ErrState {
				t.Errorf("Read(nil, %d, %d): %v, %v", size, most, l, e)
			}
		}
	}
	for _, s := range []string{"", "\x00\x00", packed(joined(example)), "\xff\xff\xff"} {
		for _, size := range []int{2, 1, 0, -1, least, 259, 1<<32 + 3, greatest} {
			for _, most := range []int{-1, 0, 9} {
				wantRead(t, behind(s, 4*len(s)), size, most, nil, api.ErrArg, 4*len(s))
			}
		}
		for _, most := range []int{-1, -2, least} {
			wantRead(t, behind(s, 4*len(s)), 3, most, nil, api.ErrArg, 4*len(s))
		}
	}
}

// 14.4: a further symbol than most is too many, the end too; but an error of its step is told instead.
func TestReadMost(t *testing.T) {
	table := "00010 0 0 11 0"
	head := "010 000000000000001 0 |" + table + table
	for _, c := range []struct {
		row  string
		most int
		l    []int
		want api.Errno
	}{
		{example, 2, []int{0, 2}, api.OK}, {example, 3, []int{0, 2}, api.OK}, {example, greatest, []int{0, 2}, api.OK}, {example, 1, nil, api.ErrLong}, {example, 0, nil, api.ErrLong},
		{head + "0", 1, []int{2}, api.OK}, {head + "0", 0, nil, api.ErrLong}, {head + "1", 0, nil, api.ErrShort}, {head, 0, nil, api.ErrShort}, {head[:30], 0, nil, api.ErrShort},
		{head + "10 10 10 1", 3, nil, api.ErrShort}, {head + "10 10 10 1", 2, nil, api.ErrLong}, {head + "10 11 10", 3, nil, api.ErrShort}, {head + "10 11 10 0", 3, nil, api.ErrLong},
		{head + strings.Repeat("10", 50), 50, nil, api.ErrData}, {head + strings.Repeat("10", 50), 49, nil, api.ErrLong}, {head + strings.Repeat("10", 49) + "0", 50, append(make([]int, 49), 2), api.OK},
		{"010 000000000000000", 0, nil, api.ErrData}, {"010 000000000000001 0 | 00000", 0, nil, api.ErrTable}, {"010 000000000000001 0 | 00010 0 0 0", 0, nil, api.ErrTable},
	} {
		row := joined(c.row)
		for ahead := range 17 {
			skip := ahead + (24-(ahead+len(row))%8)%8
			r := behind(packed(strings.Repeat("1", skip)+row), skip)
			r.Drop()
			at := skip
			if c.want == api.OK {
				at += len(row)
			}
			wantRead(t, r, 3, c.most, c.l, c.want, at)
			r.Seek(skip)
			wantRead(t, r, 3, c.most, c.l, c.want, at)
		}
	}
}

// 14.4: rows of all kinds: the first error of the steps, too many symbols, or all of them.
func TestReadMany(t *testing.T) {
	random := rand.New(rand.NewSource(9))
	times := map[api.Errno]int{}
	for i := range 2000 {
		size := someSize(random)
		skip, row := i%16, someRow(random, size)
		row += strings.Repeat("0", (16-(skip+len(row))%8)%8)
		r := behind(packed(strings.Repeat("1", skip)+row), skip)
		m, most := &model{row: row, size: size}, random.Intn(300)
		l, e := m.read(most)
		times[e]++
		if e == api.OK {
			wantRead(t, r, size, most, l, e, skip+m.at)
		} else {
			wantRead(t, r, size, most, nil, e, skip)
		}
	}
	for _, e := range []api.Errno{api.OK, api.ErrLong, api.ErrShort, api.ErrTable, api.ErrData} {
		if times[e] < 50 {
			t.Errorf("too few of %v: %v", e, times)
		}
	}
}

// 14.5: read of what was written is the row, and nothing more is read.
func TestWriteAndRead(t *testing.T) {
	random := rand.New(rand.NewSource(10))
	check := func(l []int, size, ahead int) {
		w := bits.NewWriter()
		w.Put(0, ahead)
		wantWrite(t, w, l, size, api.OK)
		end := w.Len()
		w.Put(1<<random.Intn(20), 20)
		w.Pad()
		s := w.Take()
		wantRead(t, behind(s, ahead), size, len(l), l, api.OK, end)
		wantRead(t, behind(s, ahead), size, len(l)-1, nil, api.ErrLong, ahead)
	}
	for size := 3; size <= 258; size++ {
		check(someSymbols(random, random.Intn(100), size), size, random.Intn(9))
		check([]int{size - 1}, size, size%9)
	}
	for _, n := range []int{0, 1, 48, 49, 50, 51, 99, 100, 199, 200, 599, 600, 1199, 1200, 2399, 2400, 20000} {
		for range 6 {
			size := someSize(random)
			check(someSymbols(random, n, size), size, random.Intn(33))
		}
	}
}

// 14.5: rows, one behind the other.
func TestReadRows(t *testing.T) {
	random := rand.New(rand.NewSource(11))
	w := bits.NewWriter()
	var rows [][]int
	for i := range 100 {
		rows = append(rows, someSymbols(random, random.Intn(400), 3+i))
		wantWrite(t, w, rows[i], 3+i, api.OK)
	}
	all := w.Len()
	w.Pad()
	r := bits.NewReader(w.Take())
	for i, l := range rows {
		n, _ := code.Bits(l, 3+i)
		wantRead(t, r, 3+i, len(l), l, api.OK, r.At()+n)
	}
	if r.At() != all {
		t.Errorf("%d bits were written, and %d read", all, r.At())
	}
}

// 14.6: picks behind the end's group change nothing, but how many are kept.
func TestMorePicks(t *testing.T) {
	random := rand.New(rand.NewSource(12))
	for i := range 300 {
		size := someSize(random)
		l := someSymbols(random, random.Intn(200), size)
		choice := someChoice(random, size, (len(l)+49)/50)
		number := []int{1, 2, 50, 1000, 32767 - len(choice.Picks)}[i%5]
		for range number {
			choice.Picks = append(choice.Picks, random.Intn(len(choice.Lens)))
		}
		row := plainRow(l, choice)
		s, skip := padded(row)
		wantRead(t, behind(s, skip), size, len(l), l, api.OK, skip+len(row))
		c, r := reader(t, size), behind(s, skip)
		for !c.Done() {
			if _, e := c.Step(r); e != api.OK {
				t.Fatalf("Step: %v", e)
			}
		}
		wantState(t, c, len(l), len(choice.Picks)+size*len(choice.Lens), true)
	}
}

// R3: symbols that were told share nothing with those of another call.
func TestReadApart(t *testing.T) {
	s := packed(joined(example))
	one, _ := code.Read(bits.NewReader(s), 3, 9)
	other, _ := code.Read(bits.NewReader(s), 3, 9)
	one[0], one[1] = -5, -5
	if !slices.Equal(other, []int{0, 2}) {
		t.Errorf("Read: %v", other)
	}
}
