package lexer_test

import (
	"strconv"
	"strings"
	"testing"

	"skerry/api"
	"skerry/lexer"
)

func wantText(t *testing.T, s, want string) {
	t.Helper()
	wantLex(t, s, text(want, 0, len(s)), endAt(len(s)))
}

// escape: % and two digits, by the library's numbers.
func escape(b byte) string {
	digits := strings.ToUpper(strconv.FormatInt(int64(b), 16))
	return "%" + strings.Repeat("0", 2-len(digits)) + digits
}

// slowQuote: Quote by the library's numbers, byte for byte.
func slowQuote(s string) string {
	out := "'"
	for _, b := range []byte(s) {
		if b < 32 || b > 126 || b == '\'' || b == '%' {
			out += escape(b)
		} else {
			out += string([]byte{b})
		}
	}
	return out + "'"
}

// P18.1: a Str with nothing in it, and ordinary ones.
func TestTexts(t *testing.T) {
	wantText(t, "''", "")
	wantText(t, "'a'", "a")
	wantText(t, "' '", " ")
	wantText(t, "'  a  '", "  a  ")
	wantText(t, "'it%27s 5%25'", "it's 5%")
	wantText(t, "'SELECT'", "SELECT")
	wantText(t, "'aB1_-(),*>=<'", "aB1_-(),*>=<")
	wantText(t, "'--'", "--")
	wantText(t, "'-- a'", "-- a")
	wantText(t, `'"\n'`, `"\n`)
	wantText(t, "'%C3%A9'", "é")
	wantText(t, "'%00'", "\x00")
	wantText(t, "'%0A'", "\n")
	wantText(t, "'%41%61'", "Aa")
	wantText(t, "'%20'", " ")
	wantText(t, "'%2541'", "%41")
	wantText(t, "'%25%34%31'", "%41")
	wantLex(t, "''''", text("", 0, 2), text("", 2, 4), endAt(4))
	wantLex(t, "'a''b'", text("a", 0, 3), text("b", 3, 6), endAt(6))
	wantLex(t, " 'a'b", text("a", 1, 4), name("b", 4), endAt(5))
}

// P18.1: each byte stands for itself in a Str, or is wrong there.
func TestEachByteOfATexts(t *testing.T) {
	for b := range 256 {
		s := string([]byte{byte(b)})
		switch {
		case s == "'":
			wantLex(t, "'a''a'", text("a", 0, 3), text("a", 3, 6), endAt(6))
		case s == "%":
			for _, inside := range []string{"%", "a%", "%'", "%%", "a%b"} {
				wantWrong(t, "'"+inside, 1+strings.Index(inside, "%"))
			}
		case b >= 32 && b <= 126:
			wantText(t, "'"+s+"'", s)
			wantText(t, "'a"+s+"b'", "a"+s+"b")
			wantText(t, "'"+s+s+s+"'", s+s+s)
		default:
			wantWrong(t, "'"+s+"'", 1)
			wantWrong(t, "'"+s, 1)
			wantWrong(t, "'a"+s+"b'", 2)
			wantWrong(t, "'%41"+s+"'", 4)
			wantWrong(t, "'ab"+s+s+"'", 3)
		}
	}
}

// P18.1: % with two digits to base 16, for each byte.
func TestEachEscape(t *testing.T) {
	for b := range 256 {
		s := string([]byte{byte(b)})
		wantText(t, "'"+escape(byte(b))+"'", s)
		wantText(t, "'a"+escape(byte(b))+"b'", "a"+s+"b")
		wantText(t, "'"+escape(byte(b))+escape(byte(b))+"'", s+s)
	}
}

// P18.1: a % without two digits, of 0 to 9 and A to F alone, is wrong, and its byte is told.
func TestWrongEscapes(t *testing.T) {
	for a := range 256 {
		for b := range 256 {
			inside := string([]byte{'%', byte(a), byte(b)})
			if slowEscaped.MatchString(inside) {
				n, _ := strconv.ParseUint(inside[1:], 16, 8)
				wantNext(t, "'"+inside+"'", 0, text(string([]byte{byte(n)}), 0, 5))
				continue
			}
			wantNone(t, "'"+inside+"'", 0, 1, api.ErrSyntax)
			wantNone(t, "'x"+inside+"41'", 0, 2, api.ErrSyntax)
		}
	}
	for _, s := range []string{"%", "%4", "%A", "%2f", "%fF", "%Ff", "%ff", "%aA", "%G0", "%0G", "%g", "%-1", "%+1", "% 1", "%1 ", "%4_1", "%0x", "%%41", "%é", "%\xff", "%4\xff", "%１１", "%4'", "%'", "%\n1", "%:0", "%0:", "%@0", "%/0", "%0/"} {
		wantWrong(t, "'"+s, 1)
		wantWrong(t, "'"+s+"'", 1)
		wantWrong(t, "'ab"+s+"'", 3)
		wantWrong(t, "'%41"+s+"'", 4)
		wantWrong(t, "\n'"+s+"'", 2)
		wantLexNone(t, "a = '"+s+"' b", 5, api.ErrSyntax)
	}
	// The % that is there rightly takes its digits alone.
	wantWrong(t, "'%41%4", 4)
	wantWrong(t, "'%2525%'", 6)
}

// P18.1: a Str without an end is wrong at the end of the text.
func TestTextWithoutEnd(t *testing.T) {
	for _, inside := range []string{"", "a", "abc", " ", "%41", "a%27", "%27", "-- a", strings.Repeat("a", api.MaxText), strings.Repeat("%41", api.MaxText)} {
		wantWrong(t, "'"+inside, 1+len(inside))
		wantWrong(t, " '"+inside, 2+len(inside))
		wantLexNone(t, "'x'"+"'"+inside, 4+len(inside), api.ErrSyntax)
	}
	wantLexNone(t, "a'", 2, api.ErrSyntax)
	wantLexNone(t, "'a'b'", 5, api.ErrSyntax)
	wantLexNone(t, "'''", 3, api.ErrSyntax)
	wantWrong(t, "'a\n'", 2)
}

// P18.1: MaxText characters may be; the byte at which one more begins is wrong, whatever it is, but the ' that ends the Str.
func TestTextLengths(t *testing.T) {
	for n := range api.MaxText + 1 {
		for _, c := range []struct{ signs, means string }{{"a", "a"}, {" ", " "}, {"%00", "\x00"}, {"%FF", "\xff"}, {"%27", "'"}} {
			inside, means := strings.Repeat(c.signs, n), strings.Repeat(c.means, n)
			wantText(t, "'"+inside+"'", means)
			if n < api.MaxText {
				continue
			}
			for _, more := range []string{"a", "%41", "%", "%4", "%2f", "\n", "\xff", "é", "a'", "%41'", "%'", "aa'", "aaaa\n'"} {
				wantWrong(t, "'"+inside+more, 1+len(inside))
				wantLexNone(t, "a '"+inside+more, 3+len(inside), api.ErrSyntax)
			}
		}
	}
	// Those by % count once, wherever they stand among the others.
	for n := range api.MaxText + 1 {
		inside := strings.Repeat("a", n) + strings.Repeat("%42", api.MaxText-n)
		wantText(t, "'"+inside+"'", strings.Repeat("a", n)+strings.Repeat("B", api.MaxText-n))
		wantWrong(t, "'"+inside+"c'", 1+len(inside))
		wantWrong(t, "'"+inside+"%43'", 1+len(inside))
	}
	// What is wrong ahead of that is told first.
	wantWrong(t, "'a\n"+strings.Repeat("a", api.MaxText)+"'", 2)
	wantWrong(t, "'"+strings.Repeat("a", api.MaxText-1)+"%a'", api.MaxText)
}

// P18.1: Quote of each byte, and of texts of any length.
func TestQuote(t *testing.T) {
	if got := lexer.Quote(""); got != "''" {
		t.Errorf("Quote of nothing: %s", got)
	}
	all := ""
	for b := range 256 {
		s := string([]byte{byte(b)})
		all += s
		for _, of := range []string{s, "a" + s, s + "a", s + s, "é" + s} {
			if got := lexer.Quote(of); got != slowQuote(of) {
				t.Errorf("Quote(%q): %s, want %s", of, got, slowQuote(of))
			}
		}
	}
	for _, of := range []string{
		all, "abc", "it's 5%", "''", "%27", "%", "a b", "é", "日本", "\xe2\x82", "\ufffd", "\xff\xfe", "~\x7f", "\x1f ", "&'(", "$%&", "a\nb", strings.Repeat("a", 1000), strings.Repeat("'", 1000), strings.Repeat(all, 300),
	} {
		if got := lexer.Quote(of); got != slowQuoteOf(of) {
			t.Errorf("Quote(%.80q): %.200s", of, got)
		}
	}
	for _, c := range []struct{ of, want string }{{"\n", "'%0A'"}, {"\x00", "'%00'"}, {"\xff", "'%FF'"}, {"é", "'%C3%A9'"}, {"'", "'%27'"}, {"%", "'%25'"}, {"~", "'~'"}, {"\x7f", "'%7F'"}, {" ", "' '"}, {"\x1f", "'%1F'"}} {
		if got := lexer.Quote(c.of); got != c.want {
			t.Errorf("Quote(%q): %s, want %s", c.of, got, c.want)
		}
	}
}

// slowQuoteOf: slowQuote, of long texts too.
func slowQuoteOf(s string) string {
	var parts []string
	for i := 0; i < len(s); i += 1000 {
		part := slowQuote(s[i:min(i+1000, len(s))])
		parts = append(parts, part[1:len(part)-1])
	}
	return "'" + strings.Join(parts, "") + "'"
}

// P18.2: Quote's texts are read as what they quote, whatever that is; one of more than MaxText bytes is wrong where the first too many begins.
func TestQuoteIsRead(t *testing.T) {
	source := newSource(1)
	for range 20000 {
		b := make([]byte, source.IntN(api.MaxText+3))
		for i := range b {
			b[i] = byte(source.IntN(256))
			if source.IntN(3) == 0 {
				b[i] = anyOf(source, []byte("'%aA0 -_\n~\x7f"))
			}
		}
		s := string(b)
		quoted := lexer.Quote(s)
		if quoted != slowQuote(s) {
			t.Fatalf("Quote(%q): %s, want %s", s, quoted, slowQuote(s))
		}
		if len(s) <= api.MaxText {
			wantText(t, quoted, s)
		} else {
			wantWrong(t, quoted, len(lexer.Quote(s[:api.MaxText]))-1)
		}
	}
}
