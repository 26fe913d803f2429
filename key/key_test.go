package key_test

import (
	"fmt"
	"math"
	"math/big"
	"regexp"
	"strings"
	"testing"

	"skerry/api"
	"skerry/key"
)

// source tells the same numbers each time (SplitMix64), so that a test that failed fails again.
type source struct {
	state uint64
}

func newSource(seed uint64) *source {
	return &source{state: seed}
}

func (s *source) next() uint64 {
	s.state += 0x9e3779b97f4a7c15
	z := s.state
	z = (z ^ z>>30) * 0xbf58476d1ce4e5b9
	z = (z ^ z>>27) * 0x94d049bb133111eb
	return z ^ z>>31
}

func (s *source) below(n int) int {
	return int(s.next() % uint64(n))
}

// of: a text of some of these bytes.
func (s *source) of(bytes string, most int) string {
	b := make([]byte, s.below(most+1))
	for i := range b {
		b[i] = bytes[s.below(len(bytes))]
	}
	return string(b)
}

func (s *source) row() int {
	rows := edgeRows()
	if s.below(4) > 0 {
		return rows[s.below(len(rows))]
	}
	return int(s.next())
}

// key: of few texts, so that two of them are often alike in some of their parts.
func (s *source) key() api.Key {
	const some = "\x00\x01ab/%\xfe\xff"
	return api.Key{Table: s.of(some, 2), Part: s.of(some, 3), Row: s.row(), Column: s.of(some, 2)}
}

// edgeRows: those at the ends, about 0, and those of which one byte tells.
func edgeRows() []int {
	l := []int{math.MinInt, math.MinInt + 1, -1, 0, 1, math.MaxInt - 1, math.MaxInt}
	for bit := 7; bit < 63; bit += 8 {
		l = append(l, 1<<bit, 1<<(bit+1)-1, -1<<bit, -1<<bit-1)
	}
	return l
}

// edgeTexts: those with the bytes at the ends, those at the start of others, at their ends and within them.
func edgeTexts() []string {
	l := []string{""}
	for _, a := range []string{"\x00", "\x01", "a", "\xfe", "\xff"} {
		l = append(l, a, "a"+a, a+"a", "a"+a+"b")
		for _, b := range []string{"\x00", "\x01", "\xfe", "\xff"} {
			l = append(l, a+b, a+b+"\x00", a+b+"\xff")
		}
	}
	return append(l, "/", "%", "%2f", "%25", "a/b%c", "é", "日本", strings.Repeat("p", api.MaxText), strings.Repeat("\x00", 100))
}

// edgeKeys: the texts in each place by themselves, and a row of each.
func edgeKeys() []api.Key {
	var l []api.Key
	for _, s := range edgeTexts() {
		l = append(l,
			api.Key{Table: s, Part: "p", Row: 1, Column: "c"},
			api.Key{Table: "t", Part: s, Row: 1, Column: "c"},
			api.Key{Table: "t", Part: "p", Row: 1, Column: s},
			api.Key{Table: s}, api.Key{Part: s}, api.Key{Column: s},
		)
	}
	for _, row := range edgeRows() {
		l = append(l, api.Key{Table: "t", Part: "p", Row: row, Column: "c"}, api.Key{Row: row})
	}
	return l
}

// manyKeys: the edges, and keys that share parts with one another.
func manyKeys(seed uint64, n int) []api.Key {
	l := edgeKeys()
	source := newSource(seed)
	for range n {
		l = append(l, source.key())
	}
	return l
}

func sign(n int) int {
	return big.NewInt(int64(n)).Sign()
}

// slowCmp goes through texts byte by byte.
func slowCmp(a, b api.Key) int {
	if c := slowTexts(a.Table, b.Table); c != 0 {
		return c
	}
	if c := slowTexts(a.Part, b.Part); c != 0 {
		return c
	}
	if c := big.NewInt(int64(a.Row)).Cmp(big.NewInt(int64(b.Row))); c != 0 {
		return c
	}
	return slowTexts(a.Column, b.Column)
}

func slowTexts(a, b string) int {
	for i := 0; i < len(a) && i < len(b); i++ {
		if a[i] != b[i] {
			return sign(int(a[i]) - int(b[i]))
		}
	}
	return sign(len(a) - len(b))
}

// slowBytes: to turn the highest bit of a row is to add 2^63 to it.
func slowBytes(k api.Key) []byte {
	text := func(s string) string {
		return strings.ReplaceAll(s, "\x00", "\x00\xff") + "\x00\x00"
	}
	row := big.NewInt(int64(k.Row))
	row.Add(row, new(big.Int).Lsh(big.NewInt(1), 63))
	return []byte(text(k.Table) + text(k.Part) + string(row.FillBytes(make([]byte, 8))) + text(k.Column))
}

// slowRead asks a pattern, for which each byte is made a rune.
func slowRead(b []byte) (api.Key, bool) {
	const text = `((?:[^\x00]|\x00\xff)*)\x00\x00`
	pattern := regexp.MustCompile(`\A` + text + text + `((?s:.){8})` + text + `\z`)
	found := pattern.FindStringSubmatch(asRunes(b))
	if found == nil {
		return api.Key{}, false
	}
	row := new(big.Int).SetBytes(asBytes(found[3]))
	row.Sub(row, new(big.Int).Lsh(big.NewInt(1), 63))
	plain := func(s string) string {
		return strings.ReplaceAll(string(asBytes(s)), "\x00\xff", "\x00")
	}
	return api.Key{Table: plain(found[1]), Part: plain(found[2]), Row: int(row.Int64()), Column: plain(found[4])}, true
}

func asRunes(b []byte) string {
	l := make([]rune, len(b))
	for i, x := range b {
		l[i] = rune(x)
	}
	return string(l)
}

func asBytes(s string) []byte {
	var b []byte
	for _, r := range s {
		b = append(b, byte(r))
	}
	return b
}

func slowPrint(k api.Key) string {
	text := func(s string) string {
		out := ""
		for _, c := range []byte(s) {
			switch c {
			case '/':
				out += "%2f"
			case '%':
				out += "%25"
			default:
				out += string([]byte{c})
			}
		}
		return out
	}
	return fmt.Sprintf("%s/%s/%d/%s", text(k.Table), text(k.Part), k.Row, text(k.Column))
}

// P4.1
func TestName(t *testing.T) {
	for _, c := range []struct {
		name string
		want bool
	}{
		{"", false},
		{"a", true}, {"z", true}, {"m", true},
		{"0", false}, {"9", false}, {"_", false}, {"A", false}, {"Z", false}, {" ", false}, {"é", false},
		{"a0", true}, {"a9", true}, {"a_", true}, {"az", true}, {"z__9", true}, {"t1_x", true},
		{"0a", false}, {"_a", false}, {"aA", false}, {"a-", false}, {"a b", false}, {"a ", false}, {" a", false},
		{"a.b", false}, {"a/b", false}, {"aé", false}, {"a\x00", false}, {"a\n", false},
		{strings.Repeat("a", api.MaxName-1), true},
		{strings.Repeat("a", api.MaxName), true},
		{strings.Repeat("a", api.MaxName+1), false},
		{"a" + strings.Repeat("_", api.MaxName-1), true},
		{"a" + strings.Repeat("9", api.MaxName), false},
		{strings.Repeat("a", api.MaxName-1) + "-", false},
		{strings.Repeat("a", api.MaxName-1) + "A", false},
		{strings.Repeat("a", 100000), false},
		{strings.Repeat("é", api.MaxName/2), false},
	} {
		if got := key.Name(c.name); got != c.want {
			t.Errorf("Name(%q): %v, want %v", c.name, got, c.want)
		}
	}
}

// P4.1: each byte at the beginning, within and at the end.
func TestNameBytes(t *testing.T) {
	for x := range 256 {
		c := string([]byte{byte(x)})
		first := strings.Contains("abcdefghijklmnopqrstuvwxyz", c)
		later := first || strings.Contains("0123456789_", c)
		for _, l := range []struct {
			name string
			want bool
		}{
			{c, first}, {c + "a", first}, {"a" + c, later}, {"a" + c + "a", later},
			{strings.Repeat("a", api.MaxName-1) + c, later},
			{strings.Repeat("a", api.MaxName) + c, false},
		} {
			if got := key.Name(l.name); got != l.want {
				t.Errorf("Name(%q): %v, want %v", l.name, got, l.want)
			}
		}
	}
}

// P4.1
func TestGood(t *testing.T) {
	name, long := strings.Repeat("n", api.MaxName), strings.Repeat("n", api.MaxName+1)
	for _, c := range []struct {
		key  api.Key
		want bool
	}{
		{api.Key{}, false},
		{api.Key{Table: "t", Part: "p"}, true},
		{api.Key{Table: "t", Part: "p", Row: 1, Column: "c"}, true},
		{api.Key{Table: "t", Part: "p", Row: math.MinInt, Column: "c"}, true},
		{api.Key{Table: "t", Part: "p", Row: math.MaxInt}, true},
		{api.Key{Part: "p", Column: "c"}, false},
		{api.Key{Table: "T", Part: "p", Column: "c"}, false},
		{api.Key{Table: "1", Part: "p"}, false},
		{api.Key{Table: "t-", Part: "p"}, false},
		{api.Key{Table: name, Part: "p"}, true},
		{api.Key{Table: long, Part: "p"}, false},
		{api.Key{Table: "t", Column: "c"}, false},
		{api.Key{Table: "t", Part: "P /%-\x00"}, true},
		{api.Key{Table: "t", Part: "\xff"}, true},
		{api.Key{Table: "t", Part: strings.Repeat("p", api.MaxText-1)}, true},
		{api.Key{Table: "t", Part: strings.Repeat("p", api.MaxText)}, true},
		{api.Key{Table: "t", Part: strings.Repeat("p", api.MaxText+1)}, false},
		{api.Key{Table: "t", Part: strings.Repeat("é", api.MaxText/2)}, true},
		{api.Key{Table: "t", Part: strings.Repeat("é", api.MaxText/2) + "p"}, false},
		{api.Key{Table: "t", Part: "p", Column: "C"}, false},
		{api.Key{Table: "t", Part: "p", Column: "_c"}, false},
		{api.Key{Table: "t", Part: "p", Column: " "}, false},
		{api.Key{Table: "t", Part: "p", Column: name}, true},
		{api.Key{Table: "t", Part: "p", Column: long}, false},
	} {
		if got := key.Good(c.key); got != c.want {
			t.Errorf("Good(%#v): %v, want %v", c.key, got, c.want)
		}
	}
}

// P4.1: keys unlike in one of the four alone, and in two of them in opposite ways.
func TestCmp(t *testing.T) {
	for _, c := range []struct {
		a, b api.Key
		want int
	}{
		{api.Key{}, api.Key{}, 0},
		{api.Key{Table: "t", Part: "a", Row: 1, Column: "x"}, api.Key{Table: "t", Part: "a", Row: 1, Column: "x"}, 0},
		{api.Key{Table: "t", Part: "a", Row: 1, Column: "x"}, api.Key{Table: "t", Part: "a", Row: 2, Column: "b"}, -1},
		{api.Key{Table: "a"}, api.Key{Table: "b"}, -1},
		{api.Key{Part: "a"}, api.Key{Part: "b"}, -1},
		{api.Key{Row: 1}, api.Key{Row: 2}, -1},
		{api.Key{Column: "a"}, api.Key{Column: "b"}, -1},
		{api.Key{}, api.Key{Column: "a"}, -1},
		{api.Key{Table: "a", Part: "y"}, api.Key{Table: "b", Part: "x"}, -1},
		{api.Key{Table: "a", Row: 2}, api.Key{Table: "b", Row: 1}, -1},
		{api.Key{Table: "a", Column: "y"}, api.Key{Table: "b", Column: "x"}, -1},
		{api.Key{Part: "a", Row: 2}, api.Key{Part: "b", Row: 1}, -1},
		{api.Key{Part: "a", Column: "y"}, api.Key{Part: "b", Column: "x"}, -1},
		{api.Key{Row: 1, Column: "y"}, api.Key{Row: 2, Column: "x"}, -1},
		{api.Key{Row: math.MinInt}, api.Key{Row: math.MaxInt}, -1},
		{api.Key{Row: math.MinInt}, api.Key{Row: 1}, -1},
		{api.Key{Row: -1}, api.Key{Row: 0}, -1},
		{api.Key{Row: -2}, api.Key{Row: -1}, -1},
		{api.Key{Row: 9}, api.Key{Row: 10}, -1},
		{api.Key{Part: "a"}, api.Key{Part: "aa"}, -1},
		{api.Key{Part: "a"}, api.Key{Part: "a\x00"}, -1},
		{api.Key{Part: "a\x00"}, api.Key{Part: "a\x01"}, -1},
		{api.Key{Part: "Z"}, api.Key{Part: "a"}, -1},
		{api.Key{Part: "z"}, api.Key{Part: "é"}, -1},
		{api.Key{Part: "\x7f"}, api.Key{Part: "\x80"}, -1},
		{api.Key{Part: "\xf4\x8f\xbf\xbf"}, api.Key{Part: "\xff"}, -1},
		{api.Key{Table: "a", Part: "b"}, api.Key{Table: "ab"}, -1},
	} {
		if got := key.Cmp(c.a, c.b); got != c.want {
			t.Errorf("Cmp(%#v, %#v): %d, want %d", c.a, c.b, got, c.want)
		}
		if got := key.Cmp(c.b, c.a); got != -c.want {
			t.Errorf("Cmp(%#v, %#v): %d, want %d", c.b, c.a, got, -c.want)
		}
	}
}

// P4.1
func TestCmpByWords(t *testing.T) {
	l := manyKeys(1, 400)
	for _, a := range l {
		for _, b := range l {
			if got, want := key.Cmp(a, b), slowCmp(a, b); got != want {
				t.Fatalf("Cmp(%#v, %#v): %d, want %d", a, b, got, want)
			}
		}
	}
}

// P4.2: / and % in each text, and what stands for them.
func TestPrint(t *testing.T) {
	for _, c := range []struct {
		key  api.Key
		want string
	}{
		{api.Key{}, "//0/"},
		{api.Key{Table: "t", Part: "a/b", Row: -3, Column: "x"}, "t/a%2fb/-3/x"},
		{api.Key{Table: "t", Part: "p", Row: 7}, "t/p/7/"},
		{api.Key{Table: "/", Part: "p", Column: "c"}, "%2f/p/0/c"},
		{api.Key{Table: "%", Part: "p", Column: "c"}, "%25/p/0/c"},
		{api.Key{Table: "t", Part: "/", Column: "c"}, "t/%2f/0/c"},
		{api.Key{Table: "t", Part: "%", Column: "c"}, "t/%25/0/c"},
		{api.Key{Table: "t", Part: "p", Column: "/"}, "t/p/0/%2f"},
		{api.Key{Table: "t", Part: "p", Column: "%"}, "t/p/0/%25"},
		{api.Key{Table: "t", Part: "%/%"}, "t/%25%2f%25/0/"},
		{api.Key{Table: "t", Part: "//"}, "t/%2f%2f/0/"},
		{api.Key{Table: "t", Part: "%2f%25%2F"}, "t/%252f%2525%252F/0/"},
		{api.Key{Table: "t", Part: "\x00\xffé %%d"}, "t/\x00\xffé %25%25d/0/"},
		{api.Key{Row: math.MinInt}, "//-9223372036854775808/"},
		{api.Key{Row: math.MaxInt}, "//9223372036854775807/"},
		{api.Key{Row: -1}, "//-1/"},
		{api.Key{Row: 1}, "//1/"},
	} {
		if got := key.Print(c.key); got != c.want {
			t.Errorf("Print(%#v): %q, want %q", c.key, got, c.want)
		}
	}
}

// P4.2: by the words, and no two keys have one text.
func TestPrintByWords(t *testing.T) {
	of := map[string]api.Key{}
	for _, k := range manyKeys(2, 5000) {
		got := key.Print(k)
		if want := slowPrint(k); got != want {
			t.Errorf("Print(%#v): %q, want %q", k, got, want)
		}
		if other, ok := of[got]; ok && other != k {
			t.Errorf("%#v and %#v are both printed as %q", k, other, got)
		}
		of[got] = k
	}
}

// P4.2: all but the column stays.
func TestRow(t *testing.T) {
	for _, k := range manyKeys(3, 500) {
		before := k
		want := api.Key{Table: k.Table, Part: k.Part, Row: k.Row}
		if got := key.Row(k); got != want {
			t.Errorf("Row(%#v): %#v, want %#v", k, got, want)
		}
		if k != before {
			t.Errorf("Row changed %#v to %#v", before, k)
		}
		if c := key.Cmp(want, k); c > 0 || (c == 0) != (k.Column == "") {
			t.Errorf("the row of %#v does not stand ahead of it", k)
		}
	}
}
