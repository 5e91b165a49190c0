package tenants_test

import (
	"fmt"
	"math/big"
	"math/rand"
	"regexp"
	"strings"
	"testing"

	"baler/api"
	"baler/tenants"
)

// word is a word as the chapter of words tells it: from 1 to 32 runes that may stand there; no bad byte, which the table of runes below has not.
var word = regexp.MustCompile("^[^\\x00-\\x20\\x7f-\\xa0:#]{1,32}$")

// digits are those of a number without noughts ahead.
var digits = regexp.MustCompile("^(0|[1-9][0-9]*)$")

// isWord is what may be a name or a token.
func isWord(s string) bool { return strings.ToValidUTF8(s, "") == s && word.MatchString(s) }

// mayBe is which tenant may be, as the chapter tells it.
func mayBe(t api.Tenant) bool {
	return isWord(t.Name) && isWord(t.Token) && 0 <= t.Mem && t.Mem <= api.MaxInt && 1 <= t.Steps && t.Steps <= api.MaxInt && 1 <= t.Quantum && t.Quantum <= api.MaxInt
}

// has tells whether a name, or a token, is one of those ahead.
func has(names, tokens map[string]bool, t api.Tenant) bool { return names[t.Name] || tokens[t.Token] }

// checked is what Check must tell.
func checked(l []api.Tenant) (int, api.Errno) {
	if len(l) == 0 {
		return -1, api.ErrNone
	}
	if len(l) > 16 {
		return 16, api.ErrLong
	}
	names, tokens := map[string]bool{}, map[string]bool{}
	for i, t := range l {
		if !mayBe(t) {
			return i, api.ErrArg
		}
		if has(names, tokens, t) {
			return i, api.ErrSame
		}
		names[t.Name], tokens[t.Token] = true, true
	}
	return -1, api.OK
}

// written is what Text must tell.
func written(l []api.Tenant) (string, api.Errno) {
	if _, e := checked(l); e != api.OK {
		return "", e
	}
	s := ""
	for _, t := range l {
		s += fmt.Sprintf("%s:%s:%d:%d:%d\n", t.Name, t.Token, t.Mem, t.Steps, t.Quantum)
	}
	return s, api.OK
}

// number is what digits tell; -1 of others, and of those above api.MaxInt.
func number(s string) int {
	n, ok := new(big.Int).SetString(s, 10)
	if !digits.MatchString(s) || !ok || n.Cmp(big.NewInt(1<<40)) > 0 {
		return -1
	}
	return int(n.Int64())
}

// read is what Parse must tell.
func read(s string) ([]api.Tenant, int, api.Errno) {
	if s == "" {
		return nil, 0, api.ErrNone
	}
	names, tokens := map[string]bool{}, map[string]bool{}
	var l []api.Tenant
	for i, line := range strings.Split(strings.TrimSuffix(s, "\n"), "\n") {
		last := i == strings.Count(strings.TrimSuffix(s, "\n"), "\n")
		parts := strings.Split(line, ":")
		if len(parts) != 5 || last && !strings.HasSuffix(s, "\n") {
			return nil, i + 1, api.ErrForm
		}
		t := api.Tenant{Name: parts[0], Token: parts[1], Mem: number(parts[2]), Steps: number(parts[3]), Quantum: number(parts[4])}
		if !mayBe(t) {
			return nil, i + 1, api.ErrForm
		}
		if has(names, tokens, t) {
			return nil, i + 1, api.ErrSame
		}
		if i == 16 {
			return nil, 17, api.ErrLong
		}
		names[t.Name], tokens[t.Token] = true, true
		l = append(l, t)
	}
	return l, 0, api.OK
}

// some is a number of a few, or of many.
func some(random *rand.Rand) int { return random.Intn(1<<40+1) >> random.Intn(41) }

// letters are what words are made of here, one beside the other.
var letters = []string{"a", "b", "7", "-", "\u00e9", "\u20ac", "\U0001f600", "\ufffd"}

// someWord is a word; few of them are alike.
func someWord(random *rand.Rand) string {
	s := ""
	for range 1 + random.Intn(32) {
		s += letters[random.Intn(len(letters))]
	}
	return s
}

// table are so many tenants that may be.
func table(random *rand.Rand, n int) []api.Tenant {
	l := make([]api.Tenant, n)
	for i := range l {
		for l[i].Name = someWord(random); len(l[i].Name) < 8; l[i].Name = someWord(random) {
		}
		for l[i].Token = someWord(random); len(l[i].Token) < 8; l[i].Token = someWord(random) {
		}
		l[i].Mem, l[i].Steps, l[i].Quantum = some(random), max(some(random), 1), max(some(random), 1)
	}
	return l
}

// spoiled is a text of which a few bytes are others, are gone, stand twice, or are new.
func spoiled(random *rand.Rand, s string) string {
	news := []string{"\n", ":", "0", "1", "9", "-", "+", " ", "#", "\xff", "\x00", "\r", "\u00a0", "\u0661", "_", ".", "a:b:1:1:1\n", "1099511627776", "1099511627777", "\n\n", "::"}
	for range 1 + random.Intn(2) {
		from := random.Intn(len(s) + 1)
		to := min(len(s), from+random.Intn(3))
		switch random.Intn(4) {
		case 0:
			s = s[:from] + s[to:]
		case 1:
			s = s[:to] + s[from:]
		default:
			s = s[:from] + news[random.Intn(len(news))] + s[to:]
		}
	}
	return s
}

// parses fails unless a text's table, and the text of that, are as they must be.
func parses(t *testing.T, s string) ([]api.Tenant, int, api.Errno) {
	t.Helper()
	want, line, wanted := read(s)
	l, n, e := tenants.Parse(s)
	if !same(l, want) || n != line || e != wanted {
		t.Fatalf("Parse(%q): %v, %d, %v, not %v, %d, %v", s, l, n, e, want, line, wanted)
	}
	if e != api.OK {
		return l, n, e
	}
	if at, f := tenants.Check(l); at != -1 || f != api.OK {
		t.Fatalf("Check of %q: %d, %v", s, at, f)
	}
	if x, f := tenants.Text(l); x != s || f != api.OK {
		t.Fatalf("Text of Parse(%q): %q, %v", s, x, f)
	}
	return l, n, e
}

// checks fails unless what is told of tenants is as it must be.
func checks(t *testing.T, l []api.Tenant) (int, api.Errno) {
	t.Helper()
	given := append([]api.Tenant(nil), l...)
	at, e := tenants.Check(l)
	if n, want := checked(l); at != n || e != want {
		t.Fatalf("Check(%v): %d, %v, not %d, %v", l, at, e, n, want)
	}
	s, f := tenants.Text(l)
	if want, wanted := written(l); s != want || f != wanted {
		t.Fatalf("Text(%v): %q, %v, not %q, %v", l, s, f, want, wanted)
	}
	if f == api.OK {
		if back, _, _ := parses(t, s); !same(back, l) {
			t.Fatalf("Parse of Text(%v): %v", l, back)
		}
	}
	if !same(l, given) {
		t.Fatalf("%v were changed to %v", given, l)
	}
	return at, e
}

// same tells whether tenants are the same.
func same(a, b []api.Tenant) bool {
	if len(a) != len(b) {
		return false
	}
	for i := range a {
		if a[i] != b[i] {
			return false
		}
	}
	return true
}
