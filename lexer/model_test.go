package lexer_test

import (
	"strings"
	"testing"

	"skerry/api"
	"skerry/lexer"
)

// each: all texts of n of these signs.
func each(signs []string, n int, tell func(s string)) {
	if n == 0 {
		tell("")
		return
	}
	for _, sign := range signs {
		each(signs, n-1, func(s string) { tell(sign + s) })
	}
}

// P18.1 and P18.2: all short texts of signs that mean something, against the slow forms.
func TestShortTexts(t *testing.T) {
	all := []string{"-", "'", "%", "0", "1", "9", "A", "a", "F", "g", "_", " ", "\n", ">", "=", "<", "(", ",", "*", "?", "\xff", "é", "\x00", "~"}
	for n := range 4 {
		each(all, n, func(s string) { wantSlow(t, s) })
	}
	each([]string{"-", "1", "_", "a", "\n", ">", "="}, 5, func(s string) { wantSlow(t, s) })
	each([]string{"'", "%", "4", "B", "b", "\n"}, 5, func(s string) { wantSlow(t, s) })
}

// pieces: tokens, blanks, notes, and what is wrong, in parts and whole.
func pieces() []string {
	l := append(kinds(), blanks()...)
	l = append(l, "--", "-- a\n", "--'\n", "---", "- ", "-", "--\xff\n", "--é\n", "_", "1_000", "1_", "1__0", "-0", "-_1", "007", "9223372036854775807", "-9223372036854775808", "9223372036854775808", "-9223372036854775809",
		"''", "'it%27s'", "'a--b'", "'%4'", "'%2f'", "'", "'a\n'", "%", "%41", "'a''b'", "Select", "FROM", "text", "int1", "key_", "ABC", "a_b", "Z9", "abcdefghijklmnop", "abcdefghijklmnopq", ">", ">>=", ">==", "<=", "?", ";", ".", "\"", "\x00", "\x7f", "\xff", "é", "ſ", "\u212a", "\u00a0", "\v")
	return append(l, "'"+strings.Repeat("a", api.MaxText)+"'", "'"+strings.Repeat("%41", api.MaxText)+"'", "'"+strings.Repeat("b", api.MaxText+1)+"'")
}

// P18.1 and P18.2: random texts of such pieces, against the slow forms.
func TestRandomTexts(t *testing.T) {
	source := newSource(2)
	all := pieces()
	lexed, long := 0, 0
	for range 8000 {
		var s strings.Builder
		for range source.IntN(anyOf(source, []int{3, 6, 12, 12, 100})) {
			s.WriteString(anyOf(source, all))
		}
		if len(s.String()) > api.MaxQuery {
			long++
		}
		if _, _, e := lexer.Lex(s.String()); e == api.OK {
			lexed++
		}
		wantSlow(t, s.String())
	}
	if lexed < 500 || long < 50 {
		t.Errorf("%d texts were lexed, %d were too long: too few", lexed, long)
	}
}

// P18.1 and P18.2: random texts of tokens that are whole, so that many are far from their beginning.
func TestRandomStatements(t *testing.T) {
	source := newSource(3)
	whole := []string{"a", "t1 ", "SELECT ", "from\n", "(", ")", ",", "*", "=", "<", ">=", "'x'", "'%27'", "5 ", "-5 ", "1_000 ", " ", "\t", "\r\n", " -- note\n", "--\n", "'--'"}
	for range 3000 {
		var s strings.Builder
		for range 10 + source.IntN(100) {
			s.WriteString(anyOf(source, whole))
		}
		cut := s.String()[:min(s.Len(), api.MaxQuery)]
		want, wrong, e := slowLex(cut)
		if e == api.OK {
			wantLex(t, cut, want...)
		} else {
			wantLexNone(t, cut, wrong, e)
		}
	}
}

// P18.1 and P18.2: random bytes, behind a token, a ', and a note.
func TestRandomBytes(t *testing.T) {
	source := newSource(4)
	for range 20000 {
		b := make([]byte, source.IntN(12))
		for i := range b {
			b[i] = byte(source.IntN(256))
		}
		wantSlow(t, anyOf(source, []string{"", "a ", "'", "--", "1", "'%"})+string(b))
	}
}
