package tables_test

import (
	"math/rand"
	"slices"
	"testing"

	"baler/api"
	"baler/canon"
	"baler/freq"
	"baler/lens"
	"baler/tables"
)

// plainCost is what symbols cost by lengths.
func plainCost(l, lengths []int) int {
	cost := 0
	for _, symbol := range l {
		cost += lengths[symbol]
	}
	return cost
}

// plainChoice is the choice behind so many rounds, as the chapter tells it.
func plainChoice(l []int, size, rounds int) tables.Choice {
	counts := make([]int, size)
	for _, symbol := range l {
		counts[symbol]++
	}
	var c tables.Choice
	for table := range plainNumber(len(l)) {
		row := make([]int, size)
		for symbol, own := range plainBelongs(counts, len(l)) {
			if own != table {
				row[symbol] = 15
			}
		}
		c.Lens = append(c.Lens, row)
	}
	for range rounds {
		c = plainRound(l, size, c.Lens)
	}
	return c
}

// plainRound is the choice behind a further round.
func plainRound(l []int, size int, before [][]int) tables.Choice {
	var c tables.Choice
	took := make([][]int, len(before))
	for len(l) > 0 {
		n, pick := min(50, len(l)), 0
		for table := range before {
			if plainCost(l[:n], before[table]) < plainCost(l[:n], before[pick]) {
				pick = table
			}
		}
		c.Picks = append(c.Picks, pick)
		took[pick] = append(took[pick], l[:n]...)
		l = l[n:]
	}
	for _, symbols := range took {
		counts := make([]int, size)
		for _, symbol := range symbols {
			counts[symbol]++
		}
		row, _ := lens.Of(counts)
		c.Lens = append(c.Lens, row)
	}
	return c
}

// someSymbols are n symbols: alike for a while, then of another part of the alphabet, as texts are.
func someSymbols(random *rand.Rand, n, size int) []int {
	l := make([]int, 0, n)
	for len(l) < n {
		from := random.Intn(size)
		width := 1 + random.Intn(size-from)
		for range min(1+random.Intn(100), n-len(l)) {
			l = append(l, from+random.Intn(1+random.Intn(width)))
		}
	}
	return l
}

// areSame tells whether two choices are the same, with no call of the package.
func areSame(a, b tables.Choice) bool {
	return sameRows(a.Lens, b.Lens) && slices.Equal(a.Picks, b.Picks)
}

// choice is the choice for a row; it fails, if there is none, or the row is changed.
func choice(t *testing.T, l []int, size int) tables.Choice {
	t.Helper()
	before := slices.Clone(l)
	c, e := tables.Of(l, size)
	if e != api.OK {
		t.Fatalf("Of %d by %d: %v", len(l), size, e)
	}
	if !slices.Equal(l, before) {
		t.Fatalf("Of changed %v to %v", short(before), short(l))
	}
	return c
}

// wantNoChoice fails unless Of tells an error, and nothing beside it.
func wantNoChoice(t *testing.T, l []int, size int, err api.Errno) {
	t.Helper()
	if c, e := tables.Of(l, size); len(c.Lens) != 0 || len(c.Picks) != 0 || e != err {
		t.Fatalf("Of(%v, %d) of %d: %v, not %v", short(l), size, len(l), e, err)
	}
}

// wantWhole fails unless a choice has as many tables as it must, each a whole code, and a table for each group.
func wantWhole(t *testing.T, l []int, size int, c tables.Choice) {
	t.Helper()
	if len(c.Lens) != tables.Number(len(l)) || len(c.Picks) != freq.Groups(len(l)) {
		t.Fatalf("of %d symbols: %d tables, %d picks", len(l), len(c.Lens), len(c.Picks))
	}
	for _, row := range c.Lens {
		if code, e := canon.New(row); code.Size() != size || e != api.OK {
			t.Fatalf("a table is no whole code of %d: %v", size, short(row))
		}
	}
	for _, pick := range c.Picks {
		if pick < 0 || pick >= len(c.Lens) {
			t.Fatalf("pick %d of %d tables", pick, len(c.Lens))
		}
	}
}

// wantCost fails unless Cost tells this, and leaves what it is given as it is.
func wantCost(t *testing.T, l []int, c tables.Choice, want int, err api.Errno) {
	t.Helper()
	row, rows, picks := slices.Clone(l), copies(c.Lens), slices.Clone(c.Picks)
	if n, e := tables.Cost(l, c); n != want || e != err {
		t.Fatalf("Cost(%v, %v, %v): %d, %v, not %d, %v", short(l), c.Lens, short(c.Picks), n, e, want, err)
	}
	if !slices.Equal(l, row) || !areSame(c, tables.Choice{Lens: rows, Picks: picks}) {
		t.Fatal("Cost changed what it was given")
	}
}

// copies are rows in memory of their own.
func copies(rows [][]int) [][]int {
	var out [][]int
	for _, row := range rows {
		out = append(out, slices.Clone(row))
	}
	return out
}

// wantAlike fails unless Same tells this of two choices, either way round.
func wantAlike(t *testing.T, a, b tables.Choice, want bool) {
	t.Helper()
	if tables.Same(a, b) != want || tables.Same(b, a) != want {
		t.Errorf("Same(%v, %v): %v, and %v, not %v", a, b, tables.Same(a, b), tables.Same(b, a), want)
	}
	if !tables.Same(a, a) || !tables.Same(b, b) {
		t.Errorf("%v, or %v, is not the same as itself", a, b)
	}
}

// 12.2: choices by hand: the document's example first; of tables that cost alike a group takes the first one.
func TestOf(t *testing.T) {
	many := func(symbol int) []int { return slices.Repeat([]int{symbol}, 50) }
	for _, c := range []struct {
		l    []int
		size int
		want tables.Choice
	}{
		{[]int{0, 1, 2}, 3, tables.Choice{Lens: [][]int{{2, 2, 1}, {2, 2, 1}}, Picks: []int{0}}},
		{[]int{2}, 3, tables.Choice{Lens: [][]int{{2, 2, 1}, {2, 2, 1}}, Picks: []int{0}}},
		{[]int{0, 0, 0, 2, 2, 2}, 3, tables.Choice{Lens: [][]int{{2, 2, 1}, {2, 2, 1}}, Picks: []int{0}}},
		{slices.Concat(many(0), many(2)), 3, tables.Choice{Lens: [][]int{{1, 2, 2}, {2, 2, 1}}, Picks: []int{0, 1}}},
		{slices.Concat(many(3), many(0)), 4, tables.Choice{Lens: [][]int{{1, 3, 3, 2}, {3, 3, 2, 1}}, Picks: []int{1, 0}}},
		{slices.Concat(many(0), many(2), []int{0}), 3, tables.Choice{Lens: [][]int{{1, 2, 2}, {2, 2, 1}}, Picks: []int{0, 1, 0}}},
		{slices.Concat(many(2), many(0), []int{2}), 3, tables.Choice{Lens: [][]int{{2, 2, 1}, {2, 2, 1}}, Picks: []int{0, 0, 0}}},
	} {
		if got := choice(t, c.l, c.size); !areSame(got, c.want) {
			t.Errorf("Of(%v, %d): %v, not %v", short(c.l), c.size, got, c.want)
		}
	}
}

// 12.2 to 12.4: rows of all kinds; of many of them the choice would be another one behind three rounds, or five.
func TestOfMany(t *testing.T) {
	random := rand.New(rand.NewSource(2))
	lengths := []int{1, 2, 49, 50, 51, 99, 100, 101, 199, 200, 201, 599, 600, 1199, 1200, 2399, 2400, 2401}
	for range 400 {
		lengths = append(lengths, 1+random.Intn(1<<random.Intn(14)), 500+random.Intn(8000))
	}
	others := 0
	for _, n := range lengths {
		size := 3 + random.Intn(1<<random.Intn(9))
		l := someSymbols(random, n, size)
		c := choice(t, l, size)
		wantWhole(t, l, size, c)
		want := plainChoice(l, size, 4)
		if !areSame(c, want) {
			t.Fatalf("Of %d symbols by %d: %v, not %v", n, size, c, want)
		}
		if !areSame(plainChoice(l, size, 3), want) && !areSame(plainRound(l, size, want.Lens), want) {
			others++
		}
	}
	if others < 20 {
		t.Errorf("only %d choices go on to change", others)
	}
}

// 12.2: what is no alphabet, no symbol, or no row; it is told ahead of too many groups (R1).
func TestOfErrors(t *testing.T) {
	many := make([]int, 50*api.MaxSelect+1)
	for _, size := range []int{2, 1, 0, -1, least, 259, 1 << 32, 1<<32 + 3, greatest} {
		wantNoChoice(t, nil, size, api.ErrArg)
		wantNoChoice(t, []int{0, 0}, size, api.ErrArg)
		wantNoChoice(t, many, size, api.ErrArg)
	}
	for _, size := range []int{3, 4, 258} {
		wantNoChoice(t, nil, size, api.ErrArg)
		wantNoChoice(t, []int{}, size, api.ErrArg)
		for _, bad := range []int{-1, -2, least, size, size + 1, 1 << 32, greatest} {
			wantNoChoice(t, []int{bad}, size, api.ErrArg)
			for _, i := range []int{0, 60, 119} {
				l := make([]int, 120)
				l[i] = bad
				wantNoChoice(t, l, size, api.ErrArg)
			}
			many[len(many)-1] = bad
			wantNoChoice(t, many, size, api.ErrArg)
			many[len(many)-1] = 0
		}
		wantNoChoice(t, many, size, api.ErrLong)
	}
}

// 12.2: as many groups as may be, and a symbol more.
func TestOfLongest(t *testing.T) {
	random := rand.New(rand.NewSource(3))
	l := someSymbols(random, 50*api.MaxSelect+1, 258)
	wantNoChoice(t, l, 258, api.ErrLong)
	wantNoChoice(t, append(l, l[:200]...), 258, api.ErrLong)
	l = l[:50*api.MaxSelect]
	c := choice(t, l, 258)
	wantWhole(t, l, 258, c)
	if want := plainChoice(l, 258, 4); !areSame(c, want) {
		t.Error("Of as many symbols as may be: another choice")
	}
	wantNoChoice(t, slices.Repeat([]int{1}, 2000000), 3, api.ErrLong)
}

// R3, R6: the same row has the same choice, whatever became of an earlier one, whose lists share nothing.
func TestOfApart(t *testing.T) {
	random := rand.New(rand.NewSource(4))
	l := someSymbols(random, 3000, 40)
	want, c := plainChoice(l, 40, 4), choice(t, l, 40)
	for _, row := range append(c.Lens, c.Picks) {
		_ = append(row, -6)
		for i := range row {
			if row[i] < 0 {
				t.Fatal("lists of one answer share memory")
			}
			row[i] = -5
		}
	}
	if !areSame(choice(t, l, 40), want) {
		t.Error("Of tells another choice, when it is asked again")
	}
}

// 12.2: costs by hand; tables and symbols that no group is about may have any lengths.
func TestCost(t *testing.T) {
	var l []int
	for i := range 120 {
		l = append(l, i/50)
	}
	for _, c := range []struct {
		l      []int
		choice tables.Choice
		want   int
	}{
		{nil, tables.Choice{}, 0}, {[]int{}, tables.Choice{Lens: [][]int{{-1}}, Picks: []int{}}, 0}, {[]int{1}, tables.Choice{Lens: [][]int{{7, 3}}, Picks: []int{0}}, 3},
		{l, tables.Choice{Lens: [][]int{{1, 2, 3}}, Picks: []int{0, 0, 0}}, 210}, {l, tables.Choice{Lens: [][]int{{1, 2, 3}, {10, 20, 30}}, Picks: []int{1, 0, 1}}, 1200},
		{l, tables.Choice{Lens: [][]int{{4}, {1, 5}, {1, 1, 6}}, Picks: []int{0, 1, 2}}, 570}, {l, tables.Choice{Lens: [][]int{{-1}, nil, {0, 0, 1}, {21}}, Picks: []int{2, 2, 2}}, 20},
		{l, tables.Choice{Lens: append(make([][]int, 99), []int{1, 1, 1}), Picks: []int{99, 99, 99}}, 120},
	} {
		wantCost(t, c.l, c.choice, c.want, api.OK)
	}
}

// 12.2: costs of choices, and of tables taken at random.
func TestCostMany(t *testing.T) {
	random := rand.New(rand.NewSource(5))
	for range 300 {
		size := 3 + random.Intn(1<<random.Intn(9))
		l := someSymbols(random, 1+random.Intn(1<<random.Intn(13)), size)
		c := choice(t, l, size)
		for range 2 {
			want := 0
			for i, symbol := range l {
				want += c.Lens[c.Picks[i/50]][symbol]
			}
			wantCost(t, l, c, want, api.OK)
			for i := range c.Picks {
				c.Picks[i] = random.Intn(len(c.Lens))
			}
		}
	}
}

// 12.2: groups cost at most api.MaxInt, together too.
func TestCostMost(t *testing.T) {
	const most = api.MaxInt
	l := make([]int, 101)
	l[0], l[50], l[100] = 1, 1, 1
	for _, c := range []struct{ a, b, c, want int }{
		{most, 0, 0, most}, {0, 0, most, most}, {most, most, most, most}, {most - 1, 1, 0, most}, {most - 1, 0, 0, most - 1}, {most - 2, 1, 0, most - 1}, {most - 1, 1, 1, most},
		{most / 2, most / 2, 0, most}, {most / 2, most/2 - 1, 0, most - 1}, {most/2 + 1, most / 2, 5, most},
	} {
		wantCost(t, l, tables.Choice{Lens: [][]int{{0, c.a}, {0, c.b}, {0, c.c}}, Picks: []int{0, 1, 2}}, c.want, api.OK)
	}
	wantCost(t, make([]int, 50*api.MaxSelect), tables.Choice{Lens: [][]int{{most}}, Picks: make([]int, api.MaxSelect)}, most, api.OK)
}

// 12.2: picks that are too few, too many, or of no table; and symbols and lengths that may not be.
func TestCostErrors(t *testing.T) {
	l := make([]int, 120)
	rows := [][]int{{1, 2, 3}, {3, 2, 1}}
	for _, n := range []int{0, 1, 2, 4, 5, 120} {
		wantCost(t, l, tables.Choice{Lens: rows, Picks: make([]int, n)}, 0, api.ErrArg)
	}
	wantCost(t, nil, tables.Choice{Lens: rows, Picks: []int{0}}, 0, api.ErrArg)
	for _, bad := range []int{-1, -2, least, 2, 3, 6, 1 << 32, greatest} {
		for i := range 3 {
			picks := []int{0, 1, 0}
			picks[i] = bad
			wantCost(t, l, tables.Choice{Lens: rows, Picks: picks}, 0, api.ErrArg)
		}
	}
	wantCost(t, l, tables.Choice{Picks: []int{0, 0, 0}}, 0, api.ErrArg)
	for _, bad := range []int{-1, least, 3, 4, 258, greatest} {
		for _, i := range []int{0, 60, 119} {
			other := slices.Clone(l)
			other[i] = bad
			wantCost(t, other, tables.Choice{Lens: rows, Picks: []int{0, 1, 0}}, 0, api.ErrArg)
		}
	}
	for _, bad := range []int{-1, least, api.MaxInt + 1, greatest} {
		for _, row := range [][]int{{bad, 2, 3}, {1, 2, bad}} {
			c := tables.Choice{Lens: [][]int{rows[0], row}, Picks: []int{0, 0, 1}}
			wantCost(t, l, c, 0, api.ErrArg)
			c.Picks[2] = 0
			wantCost(t, l, c, 120, api.OK)
		}
	}
	wantCost(t, l, tables.Choice{Lens: [][]int{rows[0], nil}, Picks: []int{0, 0, 1}}, 0, api.ErrArg)
}

// 12.2: choices that differ in anything are not the same; a list without an element is nil or empty (R2).
func TestSame(t *testing.T) {
	pair := func() tables.Choice {
		return tables.Choice{Lens: [][]int{{1, 2, 2}, {2, 2, 1}}, Picks: []int{0, 1, 0}}
	}
	wantAlike(t, pair(), pair(), true)
	for _, change := range []func(c *tables.Choice){
		func(c *tables.Choice) { c.Lens[0][0] = 2 }, func(c *tables.Choice) { c.Lens[1][2] = 2 }, func(c *tables.Choice) { c.Lens[0], c.Lens[1] = c.Lens[1], c.Lens[0] },
		func(c *tables.Choice) { c.Lens = c.Lens[:1] }, func(c *tables.Choice) { c.Lens = append(c.Lens, nil) }, func(c *tables.Choice) { c.Lens = nil },
		func(c *tables.Choice) { c.Lens[0] = c.Lens[0][:2] }, func(c *tables.Choice) { c.Lens[1] = append(c.Lens[1], 0) }, func(c *tables.Choice) { c.Lens[1] = nil },
		func(c *tables.Choice) { c.Picks[0] = 1 }, func(c *tables.Choice) { c.Picks[2] = 1 }, func(c *tables.Choice) { c.Picks = c.Picks[:2] }, func(c *tables.Choice) { c.Picks = append(c.Picks, 0) },
		func(c *tables.Choice) { c.Picks = nil }, func(c *tables.Choice) { *c = tables.Choice{} },
	} {
		other := pair()
		change(&other)
		wantAlike(t, pair(), other, false)
	}
	wantAlike(t, tables.Choice{}, tables.Choice{Lens: [][]int{}, Picks: []int{}}, true)
	wantAlike(t, tables.Choice{Lens: [][]int{nil}}, tables.Choice{Lens: [][]int{{}}, Picks: []int{}}, true)
	wantAlike(t, tables.Choice{}, tables.Choice{Lens: [][]int{nil}}, false)
}
