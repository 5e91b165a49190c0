package tenants_test

import (
	"fmt"
	"math/rand"
	"strings"
	"testing"

	"baler/api"
	"baler/tenants"
)

// least and greatest are the ends of all numbers.
const (
	least    = -1 << 63
	greatest = 1<<63 - 1
)

// line is the line of a table's tenant, by numbers.
func line(n int) string { return fmt.Sprintf("name%d:token%d:%d:%d:%d\n", n, n, n, n+1, n+2) }

// lines are a table of so many tenants.
func lines(n int) string {
	s := ""
	for i := range n {
		s += line(i)
	}
	return s
}

// ann, bob and cid may be, side by side.
var (
	ann = api.Tenant{Name: "ann", Token: "key", Mem: 100, Steps: 50, Quantum: 5}
	bob = api.Tenant{Name: "bob", Token: "word", Mem: 0, Steps: 1, Quantum: 1}
	cid = api.Tenant{Name: "c\u00efd", Token: "\u20ac\U0001f600", Mem: api.MaxInt, Steps: api.MaxInt, Quantum: api.MaxInt}
)

// with is a tenant that is changed.
func with(t api.Tenant, change func(*api.Tenant)) api.Tenant {
	change(&t)
	return t
}

// 32.2: the example of the chapter.
func TestExample(t *testing.T) {
	l, n, e := tenants.Parse("ann:key:100:50:5\n")
	if len(l) != 1 || l[0] != ann || n != 0 || e != api.OK {
		t.Errorf("Parse: %v, %d, %v", l, n, e)
	}
}

// 32.1: names and tokens that may be, and that may not.
func TestMayWords(t *testing.T) {
	long := strings.Repeat("\u20ac", 32)
	words := map[string]bool{
		"a": true, "key": true, "\u00e9": true, "\u00a1": true, "\ufffd": true, "!": true, "0": true, "-1": true, long: true, strings.Repeat("a", 32): true,
		"": false, " ": false, "a b": false, "a:b": false, "a#": false, "\n": false, "a\n": false, "\x00": false, "\x7f": false, "\u00a0": false, "\xff": false, "a\xe2\x82": false, "\xed\xa0\x80": false, long + "a": false, strings.Repeat("a", 33): false,
	}
	for word, may := range words {
		for _, one := range []api.Tenant{with(ann, func(t *api.Tenant) { t.Name = word }), with(ann, func(t *api.Tenant) { t.Token = word })} {
			if tenants.May(one) != may {
				t.Errorf("May(%v): %v", one, !may)
			}
			at, e := checks(t, []api.Tenant{one})
			if may != (e == api.OK) || !may && (at != 0 || e != api.ErrArg) {
				t.Errorf("Check(%v): %d, %v", one, at, e)
			}
		}
	}
	if !tenants.May(api.Tenant{Name: "a", Token: "a", Steps: 1, Quantum: 1}) {
		t.Error("a token that is the name")
	}
	if tenants.May(api.Tenant{}) {
		t.Error("none")
	}
}

// 32.1: numbers that may be, and that may not.
func TestMayNumbers(t *testing.T) {
	for _, n := range []int{0, 1, 2, 1 << 20, 1 << 32, 1<<32 + 1, 1<<40 - 1, 1 << 40, 1<<40 + 1, 1 << 41, greatest, -1, -2, -1 << 40, least, least + 1} {
		inside := n >= 1 && n <= 1<<40
		for what, c := range map[string]struct {
			t   api.Tenant
			may bool
		}{
			"Mem":     {with(ann, func(t *api.Tenant) { t.Mem = n }), inside || n == 0},
			"Steps":   {with(ann, func(t *api.Tenant) { t.Steps = n }), inside},
			"Quantum": {with(ann, func(t *api.Tenant) { t.Quantum = n }), inside},
		} {
			if tenants.May(c.t) != c.may {
				t.Errorf("May with the %s %d: %v", what, n, !c.may)
			}
			if _, e := checks(t, []api.Tenant{bob, c.t}); (e == api.OK) != c.may {
				t.Errorf("Check with the %s %d: %v", what, n, e)
			}
		}
	}
}

// 32.1: of none, and of one too many, whatever they are.
func TestCheckNumber(t *testing.T) {
	for _, l := range [][]api.Tenant{nil, {}} {
		if at, e := checks(t, l); at != -1 || e != api.ErrNone {
			t.Errorf("Check of none: %d, %v", at, e)
		}
	}
	good, _, _ := read(lines(16))
	for n := 1; n <= 16; n++ {
		if at, e := checks(t, good[:n]); at != -1 || e != api.OK {
			t.Errorf("Check of %d: %d, %v", n, at, e)
		}
	}
	more := with(ann, func(t *api.Tenant) { t.Steps = 7 })
	for _, l := range [][]api.Tenant{append(good[:16:16], more), make([]api.Tenant, 17), make([]api.Tenant, 18), make([]api.Tenant, 1000), append(good[:16:16], good...)} {
		if at, e := checks(t, l); at != 16 || e != api.ErrLong {
			t.Errorf("Check of %d: %d, %v", len(l), at, e)
		}
	}
}

// 32.1: the first one that may not be, or that is there already, at each place.
func TestCheckFirst(t *testing.T) {
	good, _, _ := read(lines(16))
	for at := range 16 {
		for ahead := range at + 1 {
			for what, change := range map[api.Errno][]func(*api.Tenant){
				api.ErrArg:  {func(t *api.Tenant) { t.Name = "" }, func(t *api.Tenant) { t.Steps = 0 }, func(t *api.Tenant) { *t = good[ahead]; t.Mem = -1 }},
				api.ErrSame: {func(t *api.Tenant) { t.Name = good[ahead].Name }, func(t *api.Tenant) { t.Token = good[ahead].Token }},
			} {
				if what == api.ErrSame && ahead == at {
					continue
				}
				for i, by := range change {
					l := append([]api.Tenant(nil), good...)
					by(&l[at])
					if n, e := checks(t, l); n != at || e != what {
						t.Fatalf("Check of the change %d at %d, of %d: %d, %v", i, at, ahead, n, e)
					}
					l = append(append(l[:at+1:at+1], api.Tenant{}), good[0])
					if n, e := checks(t, l[:min(len(l), 16)]); n != at || e != what {
						t.Fatalf("Check of the change %d at %d, of %d, and worse behind: %d, %v", i, at, ahead, n, e)
					}
				}
			}
		}
	}
}

// 32.1: a name may be another one's token, and words that only look alike are others.
func TestCheckAlike(t *testing.T) {
	one := func(name, token string) api.Tenant {
		return api.Tenant{Name: name, Token: token, Steps: 1, Quantum: 1}
	}
	for _, l := range [][]api.Tenant{
		{one("a", "b"), one("b", "a")},
		{one("a", "a"), one("b", "b")},
		{one("a", "b"), one("b", "c"), one("c", "a")},
		{one("a", "b"), one("A", "B")},
		{one("\u00e9", "x"), one("e\u0301", "y")},
		{one("a", "x"), one("aa", "xx"), one("aaa", "xxx")},
	} {
		if at, e := checks(t, l); at != -1 || e != api.OK {
			t.Errorf("Check(%v): %d, %v", l, at, e)
		}
	}
	for _, l := range [][]api.Tenant{
		{one("a", "b"), one("a", "c")},
		{one("a", "b"), one("c", "b")},
		{one("a", "b"), one("a", "b")},
	} {
		if at, e := checks(t, l); at != 1 || e != api.ErrSame {
			t.Errorf("Check(%v): %d, %v", l, at, e)
		}
	}
}

// config is one that may be.
func config() api.Config {
	return api.Config{Tenants: []api.Tenant{ann, bob}, Unit: 1000, Window: 1000, Budget: 1000, Span: 1000, Jobs: 10, Chunk: 1000}
}

// limits are a configuration's numbers, and what they may be.
func limits() []struct {
	what        string
	of          func(*api.Config) *int
	least, most int
} {
	return []struct {
		what        string
		of          func(*api.Config) *int
		least, most int
	}{
		{"Unit", func(c *api.Config) *int { return &c.Unit }, 24, 100000},
		{"Window", func(c *api.Config) *int { return &c.Window }, 64, 1 << 20},
		{"Budget", func(c *api.Config) *int { return &c.Budget }, 1, 1 << 40},
		{"Span", func(c *api.Config) *int { return &c.Span }, 1, 1 << 20},
		{"Jobs", func(c *api.Config) *int { return &c.Jobs }, 1, 64},
		{"Chunk", func(c *api.Config) *int { return &c.Chunk }, 1, 1 << 12},
	}
}

// 32.1: each number of a configuration at its edges, and beyond them.
func TestConfigNumbers(t *testing.T) {
	if e := tenants.Config(config()); e != api.OK {
		t.Fatalf("Config: %v", e)
	}
	for _, l := range limits() {
		for _, n := range []int{l.least, l.least + 1, (l.least + l.most) / 2, l.most - 1, l.most} {
			c := config()
			*l.of(&c) = n
			if e := tenants.Config(c); e != api.OK {
				t.Errorf("Config with the %s %d: %v", l.what, n, e)
			}
		}
		for _, n := range []int{l.least - 1, l.most + 1, 2*l.most + 1, 0, -1, -l.least, -l.most, least, greatest} {
			c := config()
			*l.of(&c) = n
			if e := tenants.Config(c); e != api.ErrArg {
				t.Errorf("Config with the %s %d: %v", l.what, n, e)
			}
		}
	}
	small, great := config(), config()
	for _, l := range limits() {
		*l.of(&small), *l.of(&great) = l.least, l.most
	}
	for _, c := range []api.Config{small, great} {
		if e := tenants.Config(c); e != api.OK {
			t.Errorf("Config(%v): %v", c, e)
		}
	}
}

// 32.1: the error of a configuration's tenants is told first, whatever its numbers are.
func TestConfigTenants(t *testing.T) {
	good, _, _ := read(lines(16))
	for _, c := range []struct {
		l    []api.Tenant
		want api.Errno
	}{
		{nil, api.ErrNone}, {[]api.Tenant{}, api.ErrNone},
		{good[:1], api.OK}, {good, api.OK},
		{append(good[:16:16], ann), api.ErrLong},
		{[]api.Tenant{ann, {}}, api.ErrArg}, {[]api.Tenant{ann, bob, ann}, api.ErrSame},
		{[]api.Tenant{ann, ann, {}}, api.ErrSame}, {[]api.Tenant{ann, {}, ann}, api.ErrArg},
	} {
		whole := config()
		whole.Tenants = c.l
		if e := tenants.Config(whole); e != c.want {
			t.Errorf("Config of %v: %v, not %v", c.l, e, c.want)
		}
		want := c.want
		if want == api.OK {
			want = api.ErrArg
		}
		for _, l := range limits() {
			bad := whole
			*l.of(&bad) = 0
			if e := tenants.Config(bad); e != want {
				t.Errorf("Config of %v with the %s 0: %v, not %v", c.l, l.what, e, want)
			}
		}
		if e := tenants.Config(api.Config{Tenants: c.l}); e != want {
			t.Errorf("Config of %v alone: %v, not %v", c.l, e, want)
		}
	}
}

// 32.2: each tenant by its token, and the first of those who have the same.
func TestFind(t *testing.T) {
	good, _, _ := read(lines(16))
	for at, one := range good {
		if n, e := tenants.Find(good, one.Token); n != at || e != api.OK {
			t.Errorf("Find(%q): %d, %v", one.Token, n, e)
		}
	}
	odd := []api.Tenant{{Name: "x", Token: "k"}, {Name: "y", Token: "\xff"}, {}, {Name: "x", Token: "k"}, {Token: ""}, {Token: "\ufffd"}}
	for word, at := range map[string]int{"k": 0, "\xff": 1, "": 2, "\ufffd": 5} {
		if n, e := tenants.Find(odd, word); n != at || e != api.OK {
			t.Errorf("Find(%q): %d, %v", word, n, e)
		}
	}
	if n, e := tenants.Find(append(make([]api.Tenant, 100), ann), "key"); n != 100 || e != api.OK {
		t.Errorf("Find behind many: %d, %v", n, e)
	}
}

// 32.2: a token that nobody has.
func TestFindNobody(t *testing.T) {
	l := []api.Tenant{ann, bob, cid}
	for _, word := range []string{"", "k", "ke", "keyy", "Key", "key ", " key", "ann", "bob", "wor", "words", "\u20ac", "\xff", strings.Repeat("key", 1000)} {
		if n, e := tenants.Find(l, word); n != 0 || e != api.ErrAuth {
			t.Errorf("Find(%q): %d, %v", word, n, e)
		}
		if n, e := tenants.Find(nil, word); n != 0 || e != api.ErrAuth {
			t.Errorf("Find(%q) of none: %d, %v", word, n, e)
		}
	}
}

// 32.2: a table as text.
func TestText(t *testing.T) {
	s, e := tenants.Text([]api.Tenant{ann, bob, cid})
	if s != "ann:key:100:50:5\nbob:word:0:1:1\nc\u00efd:\u20ac\U0001f600:1099511627776:1099511627776:1099511627776\n" || e != api.OK {
		t.Errorf("Text: %q, %v", s, e)
	}
	for _, c := range []struct {
		l    []api.Tenant
		want api.Errno
	}{
		{nil, api.ErrNone}, {make([]api.Tenant, 17), api.ErrLong}, {[]api.Tenant{ann, {}}, api.ErrArg}, {[]api.Tenant{ann, bob, bob}, api.ErrSame},
	} {
		if s, e := tenants.Text(c.l); s != "" || e != c.want {
			t.Errorf("Text(%v): %q, %v, not %v", c.l, s, e, c.want)
		}
	}
}

// 32.2: single lines that are none of a tenant that may be, ahead of right ones and behind them.
func TestParseForm(t *testing.T) {
	for _, one := range []string{
		"", ":", "::::", "a", "a:b", "a:b:1", "a:b:1:1", "a:b:1:1:1:", "a:b:1:1:1:1", ":a:b:1:1:1", "a:b:1:1:", "a:b:1::1", "a:b::1:1", "a::1:1:1", ":b:1:1:1",
		"a:b:01:1:1", "a:b:1:01:1", "a:b:1:1:01", "a:b:00:1:1", "a:b:+1:1:1", "a:b:1:+1:1", "a:b:1:1:+1", "a:b:-1:1:1", "a:b:1:-1:1", "a:b:1:1:-1", "a:b:-0:1:1",
		"a:b:1:0:1", "a:b:1:1:0", "a:b:1.0:1:1", "a:b:1e3:1:1", "a:b:0x1:1:1", "a:b:1_0:1:1", "a:b: 1:1:1", "a:b:1 :1:1", "a:b:1:1:1 ", " a:b:1:1:1", "a :b:1:1:1", "a:b:1:1:1\r", "a:b:a:1:1",
		"a:b:\u0661:1:1", "a:b:\uff11:1:1", "a:b:1\xff:1:1", "a:b:1\x00:1:1", "a:b:/:1:1", "a:b:1;:1:1", "a:b:1:1/:1", "a:b:1:1:1;",
		"a:b:1099511627777:1:1", "a:b:1:1099511627777:1", "a:b:1:1:1099511627777", "a:b:10995116277760:1:1", "a:b:9999999999999:1:1",
		"a:b:18446744073709551616:1:1", "a:b:18446744073709551617:1:1", "a:b:1:18446744073709551617:1", "a:b:1:1:18446744073709551617", "a:b:9223372036854775808:1:1", "a:b:36893488147419103233:1:1",
		"a:b:" + strings.Repeat("9", 1000) + ":1:1", "a:b:1:1:1" + strings.Repeat("0", 1000), "a:b:" + strings.Repeat("0", 1000) + "1:1:1",
		"a b:b:1:1:1", "a:b b:1:1:1", "#a:b:1:1:1", "a:#b:1:1:1", "#", "a\xff:b:1:1:1", "a:\xff:1:1:1", "a:\u00a0:1:1:1", "a\x00:b:1:1:1",
		strings.Repeat("a", 33) + ":b:1:1:1", "a:" + strings.Repeat("\u20ac", 33) + ":1:1:1", strings.Repeat(":", 100000),
	} {
		for ahead := range 17 {
			for _, behind := range []string{"", line(20), one + "\n", "\n", line(20) + line(20)} {
				s := lines(ahead) + one + "\n" + behind
				if l, n, e := parses(t, s); len(l) != 0 || n != ahead+1 || e != api.ErrForm {
					t.Fatalf("Parse(%q): %d, %v", s, n, e)
				}
			}
		}
	}
}

// 32.2: single lines of a tenant that may be.
func TestParseLine(t *testing.T) {
	for s, want := range map[string]api.Tenant{
		"a:b:0:1:1": {Name: "a", Token: "b", Steps: 1, Quantum: 1},
		"a:a:0:1:1": {Name: "a", Token: "a", Steps: 1, Quantum: 1},
		"1:2:3:4:5": {Name: "1", Token: "2", Mem: 3, Steps: 4, Quantum: 5},
		"a:b:1099511627776:1099511627775:1000000000000": {Name: "a", Token: "b", Mem: 1 << 40, Steps: 1<<40 - 1, Quantum: 1000000000000},
		"a:b:999999999999:10:100":                       {Name: "a", Token: "b", Mem: 999999999999, Steps: 10, Quantum: 100},
		"-1:+1:19:28:37":                                {Name: "-1", Token: "+1", Mem: 19, Steps: 28, Quantum: 37},
		"\ufffd:\u00a1:6:40:50":                         {Name: "\ufffd", Token: "\u00a1", Mem: 6, Steps: 40, Quantum: 50},
	} {
		l, n, e := parses(t, s+"\n")
		if len(l) != 1 || l[0] != want || n != 0 || e != api.OK {
			t.Errorf("Parse(%q): %v, %d, %v", s, l, n, e)
		}
	}
	long := strings.Repeat("\U0001f600", 32)
	if l, n, e := parses(t, long+":"+long+":7:8:9\n"); len(l) != 1 || l[0].Name != long || l[0].Token != long || n != 0 || e != api.OK {
		t.Errorf("Parse of long words: %v, %d, %v", l, n, e)
	}
}

// 32.2: a text that ends without a line feed, wherever it is cut.
func TestParseEnd(t *testing.T) {
	s := lines(3)
	for n := range len(s) {
		want, ahead := api.ErrForm, strings.Count(s[:n], "\n")
		switch {
		case n == 0:
			want = api.ErrNone
		case s[n-1] == '\n':
			want = api.OK
		}
		l, at, e := parses(t, s[:n])
		if e != want || e == api.ErrForm && (at != ahead+1 || len(l) != 0) || e != api.ErrForm && (at != 0 || len(l) != ahead) {
			t.Errorf("Parse(%q): %v, %d, %v", s[:n], l, at, e)
		}
	}
	for _, s := range []string{lines(16) + line(16)[:5], lines(16) + strings.TrimSuffix(line(16), "\n"), line(0) + strings.TrimSuffix(line(0), "\n")} {
		if l, n, e := parses(t, s); len(l) != 0 || n != strings.Count(s, "\n")+1 || e != api.ErrForm {
			t.Errorf("Parse(%q): %d, %v", s, n, e)
		}
	}
}

// 32.2: a name or a token that one ahead has, of each one ahead, also in the line that is one too many.
func TestParseSame(t *testing.T) {
	for ahead := 1; ahead <= 16; ahead++ {
		for of := range ahead {
			for _, one := range []string{fmt.Sprintf("name%d:x:1:1:1\n", of), fmt.Sprintf("x:token%d:1:1:1\n", of), line(of)} {
				for _, behind := range []string{"", "\n", "bad", line(30)} {
					s := lines(ahead) + one + behind
					if l, n, e := parses(t, s); len(l) != 0 || n != ahead+1 || e != api.ErrSame {
						t.Fatalf("Parse(%q): %d, %v", s, n, e)
					}
				}
			}
		}
	}
	for _, s := range []string{"a:b:1:1:1\nb:a:1:1:1\n", "a:b:1:1:1\nA:B:1:1:1\n", "a:a:1:1:1\nb:b:1:1:1\n"} {
		if l, n, e := parses(t, s); len(l) != 2 || n != 0 || e != api.OK {
			t.Errorf("Parse(%q): %d, %v", s, n, e)
		}
	}
}

// 32.2: as many lines as may be, and more.
func TestParseNumber(t *testing.T) {
	if l, n, e := parses(t, ""); len(l) != 0 || n != 0 || e != api.ErrNone {
		t.Errorf("Parse of none: %d, %v", n, e)
	}
	for n := 1; n <= 16; n++ {
		if l, at, e := parses(t, lines(n)); len(l) != n || at != 0 || e != api.OK {
			t.Errorf("Parse of %d lines: %d, %v", n, at, e)
		}
	}
	for _, s := range []string{lines(17), lines(18), lines(100), lines(17) + "\n", lines(17) + "bad", lines(17) + line(0)} {
		if l, n, e := parses(t, s); len(l) != 0 || n != 17 || e != api.ErrLong {
			t.Errorf("Parse(%q): %d, %v", s, n, e)
		}
	}
}

// 32.1 to 32.3: many tables, their texts, and what becomes of these when they are spoiled.
func TestMany(t *testing.T) {
	got := map[api.Errno]int{}
	for seed := range 5000 {
		random := rand.New(rand.NewSource(int64(seed)))
		l := table(random, 1+random.Intn(17))
		_, e := checks(t, l)
		got[e]++
		l = l[:min(len(l), 16)]
		_, e = checks(t, l)
		got[e]++
		s, _ := written(l)
		for range 20 {
			_, _, e = parses(t, spoiled(random, s))
			got[e]++
		}
		at := random.Intn(len(l))
		*[]*int{&l[at].Mem, &l[at].Steps, &l[at].Quantum}[random.Intn(3)] = random.Intn(5) - 2
		l[random.Intn(len(l))].Name = l[random.Intn(len(l))].Name
		_, e = checks(t, l)
		got[e]++
	}
	for _, e := range []api.Errno{api.OK, api.ErrArg, api.ErrForm, api.ErrSame, api.ErrLong} {
		if got[e] < 10 {
			t.Errorf("%v was told %d times only", e, got[e])
		}
	}
}

// R3, R6: the same calls tell the same, and what was told has memory of its own.
func TestOwnMemory(t *testing.T) {
	s := lines(5)
	told, _, _ := parses(t, s)
	for i := range told {
		told[i] = api.Tenant{}
	}
	again, _, _ := parses(t, s)
	x, e := tenants.Text(again)
	for i := range again {
		again[i].Name = "x"
	}
	if x != s || e != api.OK {
		t.Errorf("Text is %q by now, %v", x, e)
	}
	l := []api.Tenant{ann, bob}
	c := config()
	c.Tenants = l
	for range 3 {
		tenants.Find(l, "word")
		if e := tenants.Config(c); e != api.OK || l[0] != ann || l[1] != bob {
			t.Errorf("Config: %v of %v", e, l)
		}
	}
}
