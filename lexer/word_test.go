package lexer_test

import (
	"slices"
	"strings"
	"testing"
	"unicode"

	"skerry/api"
	"skerry/lexer"
)

func wantWord(t *testing.T, s string, want bool) {
	t.Helper()
	if got := lexer.Word(s); got != want {
		t.Fatalf("Word(%.80q): %v, want %v", s, got, want)
	}
}

// small: a text whose great letters, of the first 128 signs alone, are small ones.
func small(s string) string {
	b := []byte(s)
	for i := range b {
		if b[i] >= 'A' && b[i] <= 'Z' {
			b[i] += 'a' - 'A'
		}
	}
	return string(b)
}

// isWord: the chapter's words on Word, said otherwise.
func isWord(s string) bool {
	return slices.ContainsFunc(theWords(), func(word string) bool { return small(word) == small(s) })
}

// inSizes: a word with each choice of great and small letters.
func inSizes(word string) []string {
	out := []string{""}
	for i := range len(word) {
		var longer []string
		for _, s := range out {
			longer = append(longer, s+strings.ToUpper(word[i:i+1]), s+strings.ToLower(word[i:i+1]))
		}
		out = longer
	}
	return out
}

// THE WORDS and P18.1: words in letters of any size are told in capital letters.
func TestWords(t *testing.T) {
	if len(theWords()) != 23 {
		t.Fatalf("%d words", len(theWords()))
	}
	for _, w := range theWords() {
		for _, s := range inSizes(w) {
			wantWord(t, s, true)
			wantNext(t, s, 0, word(w, 0))
		}
		wantLex(t, strings.ToLower(w), word(w, 0), endAt(len(w)))
		wantLex(t, " "+w+" ", word(w, 1), endAt(len(w)+2))
	}
}

// Word: texts that are none.
func TestNoWords(t *testing.T) {
	for _, s := range []string{
		"", " ", "_", "1", "-", "'", "*", "\x00", "a", "name", "drop", "or", "not", "null", "by", "order", "as", "if", "two", "any", "bigint", "string", "integer",
		"select ", " select", "select\n", "select\x00", "sel ect", "select_", "_select", "select1", "1select", "select*", "(select", "'select'", "select--", "-select",
		"select,from", "select from", "createtable", "create table", "CREATETABLE", "primary key", "primarykey", "sel", "elect", "selectt", "sselect",
		"ſelect", "ſET", "inſert", "ſet", "\u212aey", "\u212aEY", "\u212a", "ＳＥＬＥＣＴ", "ｓelect", "Ѕelect", "іnt", "ıNT", "İNT", "ınt", "lımıt", "ﬆ", "o\u0301ne", "one\u0301", "\ufeffone", "\xffone", "one\xff", "\xe2one",
		strings.Join(theWords(), " "), strings.Join(theWords(), ""), strings.Repeat("select", 100000), strings.Repeat("a", 1<<20),
	} {
		wantWord(t, s, false)
	}
}

// Word: another byte at each place, one more, one fewer.
func TestNearWords(t *testing.T) {
	for _, w := range theWords() {
		for _, s := range []string{w, strings.ToLower(w)} {
			for i := range len(s) {
				for _, near := range []string{s[:i], s[i+1:], s[:i] + s[i+1:]} {
					wantWord(t, near, isWord(near))
				}
				for b := range 256 {
					near := s[:i] + string([]byte{byte(b)}) + s[i+1:]
					wantWord(t, near, isWord(near))
				}
			}
			for i := range len(s) + 1 {
				for b := range 256 {
					near := s[:i] + string([]byte{byte(b)}) + s[i:]
					wantWord(t, near, isWord(near))
				}
			}
		}
	}
	for _, a := range theWords() {
		for _, b := range theWords() {
			for _, between := range []string{"", " ", "\n", ",", "_", "\x00"} {
				wantWord(t, a+between+b, isWord(a+between+b))
			}
			wantWord(t, a[len(a)-1:]+" "+b[:1], false)
		}
	}
}

// Word: no sign beyond the first 128 stands for a letter, though some rules make some of them alike to K, S and others.
func TestWordsBeyondASCII(t *testing.T) {
	for _, w := range []string{"KEY", "set"} {
		for i := range len(w) {
			for r := rune(128); r <= unicode.MaxRune; r++ {
				if s := w[:i] + string(r) + w[i+1:]; lexer.Word(s) {
					t.Fatalf("Word(%q)", s)
				}
			}
		}
	}
	wantLexNone(t, "ſelect", 0, api.ErrSyntax)
	wantLexNone(t, "\u212aey", 0, api.ErrSyntax)
	wantLexNone(t, "inſert", 2, api.ErrSyntax)
}

// P18.1: names in letters of any size are told in small letters.
func TestNames(t *testing.T) {
	for c := 'a'; c <= 'z'; c++ {
		wantLex(t, string(c), name(string(c), 0), endAt(1))
		wantLex(t, strings.ToUpper(string(c)), name(string(c), 0), endAt(1))
	}
	for _, c := range []struct{ s, want string }{
		{"people", "people"}, {"People", "people"}, {"PEOPLE", "people"}, {"a1", "a1"}, {"A_1", "a_1"}, {"a__b", "a__b"}, {"z9_", "z9_"}, {"a_", "a_"},
		{"K", "k"}, {"azAZ09_", "azaz09_"}, {"drop", "drop"}, {"DROP", "drop"}, {"tables", "tables"},
	} {
		wantLex(t, c.s, name(c.want, 0), endAt(len(c.s)))
		wantLex(t, "("+c.s+")", op("(", 0), name(c.want, 1), op(")", len(c.s)+1), endAt(len(c.s)+2))
	}
	wantWrong(t, "_a", 0)
	wantWrong(t, "_", 0)
	wantWrong(t, " __a1", 1)
	wantLex(t, "1a", number(1, 0, 1), name("a", 1), endAt(2))
}

// P18.1: a word with a digit, a _ or a letter behind it is a name.
func TestWordsAsNames(t *testing.T) {
	for _, w := range theWords() {
		for _, behind := range []string{"0", "1", "9", "_", "__", "_1", "x", "Z", "a_b"} {
			s := w + behind
			wantWord(t, s, false)
			wantLex(t, s, name(small(s), 0), endAt(len(s)))
		}
		for _, s := range []string{"a" + w, "Z" + w} {
			if !isWord(s) {
				wantLex(t, s, name(small(s), 0), endAt(len(s)))
			}
		}
		wantWrong(t, "_"+w, 0)
		wantLex(t, "1"+w, number(1, 0, 1), word(w, 1), endAt(len(w)+1))
		wantLex(t, w+"-1", word(w, 0), number(-1, len(w), len(w)+2), endAt(len(w)+2))
		wantLex(t, w+"*", word(w, 0), op("*", len(w)), endAt(len(w)+1))
		wantLex(t, w+"'a'"+w, word(w, 0), text("a", len(w), len(w)+3), word(w, len(w)+3), endAt(2*len(w)+3))
	}
	wantLex(t, "createtable", name("createtable", 0), endAt(11))
	wantLex(t, "ALLONE", name("allone", 0), endAt(6))
}

// P18.1: a name has MaxName signs at most; one of more is wrong at its first byte, and is not cut.
func TestNameLengths(t *testing.T) {
	for _, sign := range []string{"a", "Z", "_", "7"} {
		for n := range 500 {
			s := "b" + strings.Repeat(sign, n)
			if len(s) <= api.MaxName {
				wantLex(t, s, name(small(s), 0), endAt(len(s)))
				wantLex(t, s+" c", name(small(s), 0), name("c", len(s)+1), endAt(len(s)+2))
				continue
			}
			wantWrong(t, s, 0)
			wantWrong(t, "  "+s, 2)
			wantWrong(t, "--\n"+s+"?", 3)
			wantLexNone(t, "a,"+s+" b", 2, api.ErrSyntax)
		}
	}
	wantLex(t, "abcdefghijklmnop", name("abcdefghijklmnop", 0), endAt(16))
	wantWrong(t, "abcdefghijklmnopq", 0)
	wantWrong(t, "CONSISTENCY_LEVEL", 0)
}
