package lexer_test

import (
	"math"
	"strings"
	"testing"
	"unicode"

	"skerry/api"
	"skerry/lexer"
)

// blanks: each kind of them.
func blanks() []string {
	return []string{" ", "\t", "\n", "\r"}
}

// noBlanks: signs that other rules call blanks, and others that are seen as nothing.
func noBlanks() []string {
	return []string{"\v", "\f", "\x00", "\b", "\x1b", "\x7f", "\u0085", "\u00a0", "\u2028", "\u2003", "\u3000", "\u200b", "\ufeff"}
}

// kinds: a token of each kind, that may stand behind any other one of them.
func kinds() []string {
	return []string{"(", ")", "=", "<", ",", "*", ">=", "select", "a", "5", "-5", "'x'"}
}

// P18.1: MaxQuery bytes may be, one more are ErrText, ahead of what is wrong in at and in the text.
func TestTextLength(t *testing.T) {
	for _, part := range []string{" ", "a ", "1", "(", "-- ", "\n", "?", "\xff", "é", "'"} {
		s := strings.Repeat(part, api.MaxQuery)
		for _, n := range []int{api.MaxQuery - 1, api.MaxQuery} {
			wantSlow(t, s[:n])
		}
		for _, n := range []int{api.MaxQuery + 1, api.MaxQuery + 2, 2 * api.MaxQuery, 256 * api.MaxQuery} {
			long := strings.Repeat(part, n)[:n]
			for _, at := range []int{math.MinInt, -1, 0, 1, api.MaxQuery, n - 1, n, n + 1, math.MaxInt} {
				wantNone(t, long, at, 0, api.ErrText)
			}
			wantLexNone(t, long, 0, api.ErrText)
		}
	}
	spaces := strings.Repeat(" ", api.MaxQuery-1)
	wantLex(t, spaces+"a", name("a", api.MaxQuery-1), endAt(api.MaxQuery))
	wantLex(t, spaces+" ", endAt(api.MaxQuery))
	wantLexNone(t, spaces+"?", api.MaxQuery-1, api.ErrSyntax)
	wantLexNone(t, spaces+"a ", 0, api.ErrText)
	// Bytes count, not characters.
	wantLex(t, "--"+strings.Repeat("é", 299), endAt(600))
	wantLexNone(t, "--"+strings.Repeat("é", 299)+"a", 0, api.ErrText)
}

// P18.1: an at below 0 and behind the end is ErrRange, ahead of what is wrong in the text; the end is none.
func TestAt(t *testing.T) {
	for _, s := range []string{"", " ", "a", "ab", "a b", "?", "a ?", "'", "é", "-- a", strings.Repeat("a", api.MaxQuery)} {
		for _, at := range []int{math.MinInt, math.MinInt + 1, -api.MaxQuery, -2, -1, len(s) + 1, len(s) + 2, len(s) + 1<<32, math.MaxInt - 1, math.MaxInt} {
			wantNone(t, s, at, 0, api.ErrRange)
		}
		wantNext(t, s, len(s), endAt(len(s)))
	}
	s := "abc 12_3 'x' >="
	wantNext(t, s, 0, name("abc", 0))
	wantNext(t, s, 1, name("bc", 1))
	wantNext(t, s, 3, number(123, 4, 8))
	wantNext(t, s, 5, number(23, 5, 8))
	wantNone(t, s, 6, 6, api.ErrSyntax)
	wantNext(t, s, 7, number(3, 7, 8))
	wantNext(t, s, 9, text("x", 9, 12))
	wantNext(t, s, 10, name("x", 10))
	wantNone(t, s, 11, 15, api.ErrSyntax)
	wantNext(t, s, 12, op(">=", 13))
	wantNext(t, s, 14, op("=", 14))
	wantNext(t, s, 15, endAt(15))
	wantNext(t, "é a", 2, name("a", 3))
	wantNone(t, "é a", 1, 1, api.ErrSyntax)
	wantNone(t, "--a", 1, 1, api.ErrSyntax)
	wantNext(t, "--a", 2, name("a", 2))
	wantNext(t, "--5", 1, number(-5, 1, 3))
}

// P18.1: what is behind the first token is not looked at.
func TestFirstAlone(t *testing.T) {
	for _, s := range kinds() {
		want, wrong, e := lexer.Next(s, 0)
		if wrong != 0 || e != api.OK || want.At != 0 || want.End != len(s) {
			t.Errorf("Next(%q, 0): %+v %d %v", s, want, wrong, e)
		}
		for _, behind := range []string{"?", " ?", "\xff", " 99999999999999999999", "(", " '", "\n-", " >", ", a"} {
			wantNext(t, s+behind, 0, want)
		}
	}
}

// P18.1: each kind of blank, one, many, and all of them in a row, ahead of a token and at the end.
func TestBlanks(t *testing.T) {
	ahead := append(blanks(), "  ", "\r\n", "\n\n\n", " \t\n\r", "\r\n\t \r\n", strings.Repeat(" ", 500))
	for _, a := range ahead {
		for _, s := range kinds() {
			alone, _, _ := lexer.Next(s, 0)
			alone.At, alone.End = len(a), len(a)+len(s)
			wantLex(t, a+s, alone, endAt(alone.End))
			for _, b := range ahead[:8] {
				wantLex(t, a+s+b, alone, endAt(alone.End+len(b)))
			}
		}
		wantLex(t, a, endAt(len(a)))
		wantLexNone(t, a+"?", len(a), api.ErrSyntax)
	}
	wantLex(t, "", endAt(0))
	for _, s := range noBlanks() {
		wantWrong(t, s, 0)
		wantWrong(t, " "+s+"a", 1)
		wantLexNone(t, "a"+s, 1, api.ErrSyntax)
		wantLexNone(t, "a "+s+" b", 2, api.ErrSyntax)
	}
}

// P18.1: notes, up to the next line feed or to the end, with whatever in them.
func TestNotes(t *testing.T) {
	for _, inside := range []string{"", " a note", "-", "--", "'", "a'b", "'a", "?", "\r", "\t", "\x00", "\v", "é", "\xff", "\xe2", "\xe2\x80\xa8", "\u0085", "%", "(", "a -- b", "/*", "a\r?", "a\v?", "a\f?", "a\x00?", "a\u0085?", "a\u2028?", "a\u2029?", "a\xff?", strings.Repeat("x", 200)} {
		note := "--" + inside
		end := len(note)
		wantLex(t, note, endAt(end))
		wantLex(t, note+"\n", endAt(end+1))
		wantLex(t, note+"\na", name("a", end+1), endAt(end+2))
		wantLex(t, note+"\n\n"+note, endAt(2*end+2))
		wantLex(t, "a"+note, name("a", 0), endAt(1+end))
		wantLex(t, "a "+note+"\n b", name("a", 0), name("b", end+4), endAt(end+5))
		wantLex(t, "5"+note+"\n6", number(5, 0, 1), number(6, end+2, end+3), endAt(end+3))
		wantLex(t, "'x'"+note+"\n", text("x", 0, 3), endAt(end+4))
		wantLexNone(t, note+"\n?", end+1, api.ErrSyntax)
	}
	wantLex(t, "--a\rb\nc", name("c", 6), endAt(7))
	wantLex(t, "--a\n--b\n \t--c\nd--e", name("d", 14), endAt(18))
	wantLex(t, "---5", endAt(4))
	wantLex(t, "---5\n-5", number(-5, 5, 7), endAt(7))
	wantLex(t, " -- x", endAt(5))
	wantLex(t, "a--b\n=--'\n'--c'--", name("a", 0), op("=", 5), text("--c", 10, 15), endAt(17))
}

// P18.1: a - by itself is wrong, with a note behind it, too.
func TestLoneMinus(t *testing.T) {
	for _, s := range []string{"-", "- ", "- 5", "-\n5", "- -", "- --", "- -- note\n5", "-\n--", "-a", "-_5", "-_", "-'x'", "-(", "-=", "->", "-\xff", "-\x00", "-é", "-٣", "-+5", "-.5"} {
		wantWrong(t, s, 0)
		wantWrong(t, " \n"+s, 2)
		wantWrong(t, "--\n"+s, 3)
		wantLexNone(t, "a "+s, 2, api.ErrSyntax)
	}
	wantLexNone(t, "5 - 3", 2, api.ErrSyntax)
	wantLexNone(t, "5 -", 2, api.ErrSyntax)
}

// P18.1: each of the ops, and what is nearly one.
func TestOps(t *testing.T) {
	for _, s := range []string{"=", "<", "(", ")", ",", "*", ">="} {
		wantLex(t, s, op(s, 0), endAt(len(s)))
		wantLex(t, s+s, op(s, 0), op(s, len(s)), endAt(2*len(s)))
		wantLex(t, " "+s+" a", op(s, 1), name("a", len(s)+2), endAt(len(s)+3))
	}
	for _, s := range []string{">", "> =", "> ", ">>=", ">a", ">5", ">'x'", "><", ">\n=", ">--\n=", ">\xff="} {
		wantWrong(t, s, 0)
		wantLexNone(t, "r"+s, 1, api.ErrSyntax)
	}
	wantLex(t, ">==", op(">=", 0), op("=", 2), endAt(3))
	wantLex(t, "<=", op("<", 0), op("=", 1), endAt(2))
	wantLex(t, "==", op("=", 0), op("=", 1), endAt(2))
	wantLex(t, "()", op("(", 0), op(")", 1), endAt(2))
	wantLex(t, "(),*=<>=", op("(", 0), op(")", 1), op(",", 2), op("*", 3), op("=", 4), op("<", 5), op(">=", 6), endAt(8))
	wantLexNone(t, "=>", 1, api.ErrSyntax)
	wantLexNone(t, "<>", 1, api.ErrSyntax)
	wantLexNone(t, "!=", 0, api.ErrSyntax)
	wantLexNone(t, ">=>", 2, api.ErrSyntax)
}

// P18.1: each byte by itself; those that begin no token are wrong.
func TestEachByte(t *testing.T) {
	for b := range 256 {
		s := string([]byte{byte(b)})
		wantSlow(t, s)
		wantSlow(t, s+s)
		switch c := byte(b); {
		case c == '\'':
			wantWrong(t, s, 1)
		case strings.IndexByte(" \t\n\r", c) >= 0:
			wantLex(t, s, endAt(1))
		case strings.IndexByte("=<(),*", c) >= 0:
			wantLex(t, s, op(s, 0), endAt(1))
		case c >= '0' && c <= '9':
			wantLex(t, s, number(b-'0', 0, 1), endAt(1))
		case c >= 'a' && c <= 'z':
			wantLex(t, s, name(s, 0), endAt(1))
		case c >= 'A' && c <= 'Z':
			wantLex(t, s, name(string([]byte{c + 32}), 0), endAt(1))
		default:
			wantWrong(t, s, 0)
			for _, ahead := range kinds() {
				if s != "-" || ahead != "-5" {
					wantLexNone(t, ahead+" "+s, len(ahead)+1, api.ErrSyntax)
				}
			}
		}
	}
}

// P18.1: no sign beyond the first 128 begins a token, is a blank, or is a part of a word, of a number or of a Str, whatever other rules call it.
func TestBeyondASCII(t *testing.T) {
	for r := rune(128); r <= unicode.MaxRune; r++ {
		if r == 0x30000 { // Of the planes from here on the end alone is asked.
			r = unicode.MaxRune - 0x1000
		}
		s := string(r)
		for i, in := range []string{s, "a" + s, "1" + s, "'" + s + "'", "''" + s} {
			got, wrong, e := lexer.Lex(in)
			if want := []int{0, 1, 1, 1, 2}[i]; len(got) != 0 || wrong != want || e != api.ErrSyntax {
				t.Fatalf("Lex(%q): %+v %d %v, want %d", in, got, wrong, e, want)
			}
		}
	}
	for b := 128; b < 256; b++ {
		s := string([]byte{byte(b)})
		wantWrong(t, s, 0)
		wantWrong(t, " "+s+"a", 1)
		wantLexNone(t, "a"+s+"b", 1, api.ErrSyntax)
		wantLexNone(t, "select"+s, 6, api.ErrSyntax)
		wantLexNone(t, "12"+s+"3", 2, api.ErrSyntax)
		wantWrong(t, "'a"+s+"b'", 2)
		wantLex(t, "--"+s+"\nb", name("b", 4), endAt(5))
	}
}

// P18.1: tokens that stand close together.
func TestCloseTogether(t *testing.T) {
	wantLex(t, "5-3", number(5, 0, 1), number(-3, 1, 3), endAt(3))
	wantLex(t, "5--3", number(5, 0, 1), endAt(4))
	wantLex(t, "a-3", name("a", 0), number(-3, 1, 3), endAt(3))
	wantLex(t, "a'x'b", name("a", 0), text("x", 1, 4), name("b", 4), endAt(5))
	wantLex(t, "'x''y'", text("x", 0, 3), text("y", 3, 6), endAt(6))
	wantLex(t, "1'x'2", number(1, 0, 1), text("x", 1, 4), number(2, 4, 5), endAt(5))
	wantLex(t, "5select", number(5, 0, 1), word("SELECT", 1), endAt(7))
	wantLex(t, "SELECT*FROM(t)", word("SELECT", 0), op("*", 6), word("FROM", 7), op("(", 11), name("t", 12), op(")", 13), endAt(14))
	wantLex(t, "r>=-5", name("r", 0), op(">=", 1), number(-5, 3, 5), endAt(5))
	wantLex(t, "a,b,c", name("a", 0), op(",", 1), name("b", 2), op(",", 3), name("c", 4), endAt(5))
	wantLexNone(t, "a_b-c", 3, api.ErrSyntax)
	wantLexNone(t, "a.b", 1, api.ErrSyntax)
	wantLexNone(t, "a;", 1, api.ErrSyntax)
	wantLexNone(t, "1.5", 1, api.ErrSyntax)
	wantLexNone(t, "\"a\"", 0, api.ErrSyntax)
}

// P18.1: Lex tells Next's first error alone, however many tokens are ahead of it and whatever is behind.
func TestLexWrong(t *testing.T) {
	for n := range 100 {
		ahead := strings.Repeat("a,", n)
		for _, wrong := range []string{"?", "-", ">", "_", "%", "'", "99999999999999999999", "abcdefghijklmnopq"} {
			at := len(ahead)
			if wrong == "'" {
				at++
			}
			wantLexNone(t, ahead+wrong, at, api.ErrSyntax)
			if wrong != "'" {
				wantLexNone(t, ahead+wrong+"? a ' >", at, api.ErrSyntax)
			}
		}
	}
}
