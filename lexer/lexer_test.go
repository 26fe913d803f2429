package lexer_test

import (
	"math/big"
	"math/rand/v2"
	"regexp"
	"slices"
	"strings"
	"testing"

	"skerry/api"
	"skerry/lexer"
)

// The seeds are written out, so that a test that failed fails again.
func newSource(seed uint64) *rand.Rand {
	return rand.New(rand.NewPCG(seed, 0))
}

func anyOf[T any](source *rand.Rand, l []T) T {
	return l[source.IntN(len(l))]
}

// theWords: those of the language, one by one.
func theWords() []string {
	return []string{
		"CREATE", "TABLE", "PRIMARY", "KEY", "INSERT", "INTO", "VALUES", "USING", "TIMESTAMP", "CONSISTENCY", "UPDATE", "SET",
		"WHERE", "AND", "DELETE", "FROM", "SELECT", "LIMIT", "ONE", "QUORUM", "ALL", "TEXT", "INT",
	}
}

// The chapter's words on what a token is, as patterns.
var (
	slowAhead   = regexp.MustCompile(`^(?:[ \t\n\r]|--[^\n]*)*`)
	slowNumber  = regexp.MustCompile(`^-?[0-9](?:_?[0-9])*`)
	slowQuoted  = regexp.MustCompile(`^'(?:[ -$&(-~]|%[0-9A-F][0-9A-F]){0,64}`)
	slowEscaped = regexp.MustCompile(`%[0-9A-F][0-9A-F]`)
	slowWord    = regexp.MustCompile(`^[A-Za-z][A-Za-z0-9_]*`)
	slowOp      = regexp.MustCompile(`^(?:>=|[=<(),*])`)
)

func endAt(at int) lexer.Token {
	return lexer.Token{Kind: lexer.KindEnd, At: at, End: at}
}

func op(s string, at int) lexer.Token {
	return lexer.Token{Kind: lexer.KindOp, S: s, At: at, End: at + len(s)}
}

func word(s string, at int) lexer.Token {
	return lexer.Token{Kind: lexer.KindWord, S: s, At: at, End: at + len(s)}
}

func name(s string, at int) lexer.Token {
	return lexer.Token{Kind: lexer.KindName, S: s, At: at, End: at + len(s)}
}

func number(n, at, end int) lexer.Token {
	return lexer.Token{Kind: lexer.KindLiteral, Value: api.Value{Kind: api.Int, N: n}, At: at, End: end}
}

func text(s string, at, end int) lexer.Token {
	return lexer.Token{Kind: lexer.KindLiteral, Value: api.Value{Kind: api.Str, S: s}, At: at, End: end}
}

// unquoted: what the inside of a Str says, each % with its two digits read by the library's numbers.
func unquoted(inside string) string {
	return slowEscaped.ReplaceAllStringFunc(inside, func(s string) string {
		b, _ := new(big.Int).SetString(s[1:], 16)
		return string([]byte{byte(b.Int64())})
	})
}

// slowNext: Next by the patterns.
func slowNext(s string, at int) (lexer.Token, int, api.Errno) {
	if len(s) > 600 {
		return lexer.Token{}, 0, api.ErrText
	}
	if at < 0 || at > len(s) {
		return lexer.Token{}, 0, api.ErrRange
	}
	at += len(slowAhead.FindString(s[at:]))
	rest := s[at:]
	if rest == "" {
		return endAt(at), 0, api.OK
	}
	if digits := slowNumber.FindString(rest); digits != "" {
		n, _ := new(big.Int).SetString(strings.ReplaceAll(digits, "_", ""), 10)
		if !n.IsInt64() {
			return lexer.Token{}, at, api.ErrSyntax
		}
		return number(int(n.Int64()), at, at+len(digits)), 0, api.OK
	}
	if inside := slowQuoted.FindString(rest); inside != "" {
		end := at + len(inside)
		if !strings.HasPrefix(s[end:], "'") {
			return lexer.Token{}, end, api.ErrSyntax
		}
		return text(unquoted(inside[1:]), at, end+1), 0, api.OK
	}
	if letters := slowWord.FindString(rest); slices.Contains(theWords(), strings.ToUpper(letters)) {
		return word(strings.ToUpper(letters), at), 0, api.OK
	} else if letters != "" && len(letters) <= 16 {
		return name(strings.ToLower(letters), at), 0, api.OK
	}
	if sign := slowOp.FindString(rest); sign != "" {
		return op(sign, at), 0, api.OK
	}
	return lexer.Token{}, at, api.ErrSyntax
}

// slowLex: Lex by slowNext.
func slowLex(s string) ([]lexer.Token, int, api.Errno) {
	var l []lexer.Token
	for at := 0; ; {
		t, wrong, e := slowNext(s, at)
		if e != api.OK {
			return nil, wrong, e
		}
		l = append(l, t)
		if t.Kind == lexer.KindEnd {
			return l, 0, api.OK
		}
		at = t.End
	}
}

// A test that wants much ends with the first answer that is another one.
func wantNext(t *testing.T, s string, at int, want lexer.Token) {
	t.Helper()
	if got, wrong, e := lexer.Next(s, at); got != want || wrong != 0 || e != api.OK {
		t.Fatalf("Next(%.80q, %d): %+v %d %v, want %+v", s, at, got, wrong, e, want)
	}
}

// wantNone: nothing, but an error and its byte.
func wantNone(t *testing.T, s string, at, byteOf int, want api.Errno) {
	t.Helper()
	if got, wrong, e := lexer.Next(s, at); got != (lexer.Token{}) || wrong != byteOf || e != want {
		t.Fatalf("Next(%.80q, %d): %+v %d %v, want %d %v", s, at, got, wrong, e, byteOf, want)
	}
}

// wantWrong: the byte of s that is wrong, for Next from 0 on and for Lex, s having no token ahead of that byte.
func wantWrong(t *testing.T, s string, byteOf int) {
	t.Helper()
	wantNone(t, s, 0, byteOf, api.ErrSyntax)
	wantLexNone(t, s, byteOf, api.ErrSyntax)
}

func wantLex(t *testing.T, s string, want ...lexer.Token) {
	t.Helper()
	got, wrong, e := lexer.Lex(s)
	if !slices.Equal(got, want) || wrong != 0 || e != api.OK {
		t.Fatalf("Lex(%.80q): %+v %d %v, want %+v", s, got, wrong, e, want)
	}
	wantPlaces(t, s, got)
}

func wantLexNone(t *testing.T, s string, byteOf int, want api.Errno) {
	t.Helper()
	if got, wrong, e := lexer.Lex(s); len(got) != 0 || wrong != byteOf || e != want {
		t.Fatalf("Lex(%.80q): %+v %d %v, want %d %v", s, got, wrong, e, byteOf, want)
	}
}

// wantPlaces: P18.2 of a text's tokens: each stands at its place, and is there by itself, too; blanks and notes alone are between, and the end is behind all.
func wantPlaces(t *testing.T, s string, l []lexer.Token) {
	t.Helper()
	at := 0
	for i, x := range l {
		if x.At < at || x.End > len(s) || x.End < x.At || (x.End == x.At) != (i == len(l)-1) {
			t.Fatalf("Lex(%.80q): token %d is from %d to %d, the one ahead up to %d", s, i, x.At, x.End, at)
		}
		if between := s[at:x.At]; slowAhead.FindString(between) != between {
			t.Fatalf("Lex(%.80q): %q ahead of token %d", s, between, i)
		}
		alone, _, e := lexer.Next(s[x.At:x.End], 0)
		alone.At, alone.End = alone.At+x.At, alone.End+x.At
		if alone != x || e != api.OK {
			t.Fatalf("Lex(%.80q): token %d is %+v, and %+v by itself", s, i, x, alone)
		}
		at = x.End
	}
	if len(l) > 0 && at != len(s) {
		t.Fatalf("Lex(%.80q) ends at %d", s, at)
	}
}

// wantSlow: Next at each byte, at those ahead of all and behind, and Lex, as the slow forms tell them.
func wantSlow(t *testing.T, s string) {
	t.Helper()
	for at := -2; at <= len(s)+2; at++ {
		want, wrong, e := slowNext(s, at)
		if e == api.OK {
			wantNext(t, s, at, want)
		} else {
			wantNone(t, s, at, wrong, e)
		}
	}
	want, wrong, e := slowLex(s)
	if e == api.OK {
		wantLex(t, s, want...)
	} else {
		wantLexNone(t, s, wrong, e)
	}
}

// P18.1: the examples of the chapter.
func TestExamples(t *testing.T) {
	wantLex(t, "r>=-5", name("r", 0), op(">=", 1), number(-5, 3, 5), endAt(5))
	wantLexNone(t, "a ? b", 2, api.ErrSyntax)
	if got := lexer.Quote("it's 5%"); got != "'it%27s 5%25'" {
		t.Errorf("Quote: %s", got)
	}
}

// P18.1: ordinary statements.
func TestStatements(t *testing.T) {
	wantLex(t, "SELECT * FROM t WHERE k='x'",
		word("SELECT", 0), op("*", 7), word("FROM", 9), name("t", 14), word("WHERE", 16), name("k", 22), op("=", 23), text("x", 24, 27), endAt(27))
	wantLex(t, "insert into T (k, r)\n\tvalues ('it%27s', -1_000) -- a note\r\nusing timestamp 7",
		word("INSERT", 0), word("INTO", 7), name("t", 12), op("(", 14), name("k", 15), op(",", 16), name("r", 18), op(")", 19),
		word("VALUES", 22), op("(", 29), text("it's", 30, 38), op(",", 38), number(-1000, 40, 46), op(")", 46),
		word("USING", 59), word("TIMESTAMP", 65), number(7, 75, 76), endAt(76))
	wantLex(t, "CREATE TABLE people(k TEXT,r INT,PRIMARY KEY(k,r))",
		word("CREATE", 0), word("TABLE", 7), name("people", 13), op("(", 19), name("k", 20), word("TEXT", 22), op(",", 26), name("r", 27), word("INT", 29), op(",", 32),
		word("PRIMARY", 33), word("KEY", 41), op("(", 44), name("k", 45), op(",", 46), name("r", 47), op(")", 48), op(")", 49), endAt(50))
	wantLex(t, "delete a_1 from t where r<5 and r>=0 limit 3 consistency quorum",
		word("DELETE", 0), name("a_1", 7), word("FROM", 11), name("t", 16), word("WHERE", 18), name("r", 24), op("<", 25), number(5, 26, 27), word("AND", 28),
		name("r", 32), op(">=", 33), number(0, 35, 36), word("LIMIT", 37), number(3, 43, 44), word("CONSISTENCY", 45), word("QUORUM", 57), endAt(63))
}
