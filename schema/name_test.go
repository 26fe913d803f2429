package schema_test

import (
	"slices"
	"strings"
	"testing"
	"unicode"

	"skerry/api"
	"skerry/key"
	"skerry/schema"
)

// theWords: those of the language, one by one.
func theWords() []string {
	return []string{
		"create", "table", "primary", "key", "insert", "into", "values", "using", "timestamp", "consistency", "update", "set",
		"where", "and", "delete", "from", "select", "limit", "one", "quorum", "all", "text", "int",
	}
}

// good: the words of the chapter, said otherwise.
func good(s string) bool {
	return key.Name(s) && !slices.Contains(theWords(), s)
}

// noNames: texts of each way not to be a name.
func noNames() []string {
	return append(theWords(), "", " ", "_", "_a", "1", "1a", "A", "aB", "a b", "a-b", "a.b", "é", "a\x00", "\xff", strings.Repeat("a", api.MaxName+1))
}

// P17.1: ordinary names.
func TestName(t *testing.T) {
	for _, s := range []string{
		"a", "z", "k", "t", "a1", "a_", "a_1", "a__", "z9", "name", "people", "part", "row", "rows", "column", "columns", "primes", "tables",
		"drop", "alter", "or", "not", "null", "is", "in", "by", "order", "group", "asc", "as", "if", "exists", "use", "with", "ttl", "bigint",
		"integer", "string", "varchar", "blob", "bool", "float", "begin", "batch", "apply", "index", "two", "any", "none", "local_quorum", "dead",
	} {
		wantName(t, s, true)
	}
	for c := 'a'; c <= 'z'; c++ {
		wantName(t, string(c), true)
	}
}

// P17.1: no word is a name, and there are 23 of them.
func TestWords(t *testing.T) {
	if len(theWords()) != 23 {
		t.Fatalf("%d words", len(theWords()))
	}
	for _, s := range theWords() {
		if !key.Name(s) {
			t.Errorf("%q is no name of key's, word or not", s)
		}
		wantName(t, s, false)
	}
}

// P17.1: a letter fewer, another one, and one more, at each place.
func TestNearWords(t *testing.T) {
	for _, s := range []string{"selec", "elect", "selects", "aselect", "select_", "select1", "create_", "tables", "tabl", "in", "it", "inta", "nto", "al", "alls", "ball", "an", "nd", "on", "ones", "bone", "se", "sett", "ke", "keys", "monkey", "tex", "texts", "form", "whre"} {
		wantName(t, s, true)
	}
	wantName(t, "into", false)
	for _, word := range theWords() {
		for i := range len(word) {
			wantName(t, word[:i], good(word[:i]))
			wantName(t, word[i+1:], good(word[i+1:]))
			wantName(t, word[:i]+word[i+1:], good(word[:i]+word[i+1:]))
		}
		for b := range 256 {
			sign := string([]byte{byte(b)})
			for i := range len(word) + 1 {
				wantName(t, word[:i]+sign+word[i:], good(word[:i]+sign+word[i:]))
			}
			for i := range len(word) {
				wantName(t, word[:i]+sign+word[i+1:], good(word[:i]+sign+word[i+1:]))
			}
		}
	}
}

// P17.1: words in great letters are no names either, as key has no great ones.
func TestGreatWords(t *testing.T) {
	for _, word := range theWords() {
		wantName(t, strings.ToUpper(word), false)
		for i := range len(word) {
			wantName(t, word[:i]+strings.ToUpper(word[i:i+1])+word[i+1:], false)
		}
	}
}

// P17.1: two words with something between; what stands behind one another in a list of the words is no word.
func TestTwoWords(t *testing.T) {
	for _, a := range theWords() {
		for _, b := range theWords() {
			for _, blank := range []string{" ", "  ", "\t", "\n", "\r\n", ",", "\x00", "\u00a0"} {
				wantName(t, a+blank+b, false)
			}
			for _, between := range []string{"", "_", "1", "x"} {
				s := a + between + b
				wantName(t, s, good(s))
				if good(s) != (len(s) <= api.MaxName) {
					t.Errorf("%q is a word, or is none by key's rule", s)
				}
			}
			wantName(t, a[len(a)-1:]+" "+b[:1], false)
		}
		for _, blank := range []string{" ", "\t", "\n", "\u00a0", "\ufeff"} {
			wantName(t, a+blank, false)
			wantName(t, blank+a, false)
		}
	}
	wantName(t, strings.Join(theWords(), " "), false)
	wantName(t, strings.Join(theWords(), ""), false)
	wantName(t, "createtable", true)
	wantName(t, "create_table", true)
}

// P17.1: names of 1 to MaxName signs, and one more.
func TestNameLengths(t *testing.T) {
	for n := range 4 * api.MaxName {
		wantName(t, strings.Repeat("a", n), n >= 1 && n <= api.MaxName)
		wantName(t, strings.Repeat("z9_", n), n >= 1 && 3*n <= api.MaxName)
	}
	wantName(t, strings.Repeat("a", 1<<20), false)
	wantName(t, strings.Repeat("select ", 100000), false)
}

// P17.1: what is no name of key's is none here.
func TestNoNames(t *testing.T) {
	for _, s := range append(noNames(), "\x00a", "ａ", "ſet", "ｓet", "keK", "ıd", "ab\u0301", "a\xe2", "'a'", "a'", "a*", "(", "=", "a=", "a,b", "--a", "%61", "a/b") {
		wantName(t, s, false)
	}
	for r := rune(0); r <= unicode.MaxRune; r++ {
		s := string(r)
		if small := r >= 'a' && r <= 'z'; schema.Name(s) != small || schema.Name("a"+s) != (small || r >= '0' && r <= '9' || r == '_') {
			t.Fatalf("Name of %q or of a and it: %v, %v", s, schema.Name(s), schema.Name("a"+s))
		}
	}
}

// P17.1: random texts of few letters, among which words are often met.
func TestRandomNames(t *testing.T) {
	source := newSource(1)
	met := 0
	for range 200000 {
		b := make([]byte, 2+source.IntN(3))
		for i := range b {
			b[i] = "aeilnot1_ A"[source.IntN(11)]
		}
		if s := string(b); slices.Contains(theWords(), s) {
			met++
		}
		wantName(t, string(b), good(string(b)))
	}
	if met < 100 {
		t.Errorf("%d words met, too few", met)
	}
}
