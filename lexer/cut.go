package lexer

import (
	"strconv"
	"strings"

	"skerry/api"
	"skerry/key"
)

const digits16 = "0123456789ABCDEF"

// ops: none begins another one.
var ops = [...]string{">=", "=", "<", "(", ")", ",", "*"}

// place is a byte of a statement, at which a token begins.
type place struct {
	s  string
	at int
}

// cut tells the token that begins at a place; else the byte that is wrong.
type cut func(p place) (Token, int, api.Errno)

// begin: the place behind blanks and notes, and what cuts the token there.
func begin(s string, at int) (place, cut) {
	note := false
	for i, r := range s[at:] {
		p := place{s, at + i}
		switch {
		case note:
			note = r != '\n'
		case isBlank(r):
		case strings.HasPrefix(p.rest(), "--"):
			note = true
		case r == '-' || isDigit(r):
			return p, place.number
		case r == '\'':
			return p, place.quoted
		case isLetter(r):
			return p, place.word
		default:
			return p, place.op
		}
	}
	return place{s, len(s)}, place.end
}

func (p place) rest() string { return p.s[p.at:] }

// upTo: the token, as it stands from the place to a byte.
func (p place) upTo(end int, t Token) (Token, int, api.Errno) {
	t.At, t.End = p.at, end
	return t, 0, api.OK
}

func wrong(at int) (Token, int, api.Errno) { return Token{}, at, api.ErrSyntax }

func (p place) end() (Token, int, api.Errno) { return p.upTo(p.at, Token{Kind: KindEnd}) }

func (p place) op() (Token, int, api.Errno) {
	for _, op := range ops {
		if strings.HasPrefix(p.rest(), op) {
			return p.upTo(p.at+len(op), Token{Kind: KindOp, S: op})
		}
	}
	return wrong(p.at)
}

func (p place) number() (Token, int, api.Errno) {
	from := p.at
	if p.s[from] == '-' {
		from++
	}
	end := digitsEnd(p.s, from)
	// A - without a digit behind it is no number either.
	n, err := strconv.Atoi(strings.ReplaceAll(p.s[p.at:end], "_", ""))
	if err != nil {
		return wrong(p.at)
	}
	return p.upTo(end, Token{Kind: KindLiteral, Value: api.Value{Kind: api.Int, N: n}})
}

func (p place) quoted() (Token, int, api.Errno) {
	var text []byte
	next := p.at + 1
	for i, r := range p.rest() {
		at := p.at + i
		if at < next {
			continue
		}
		if r == '\'' {
			return p.upTo(at+1, Token{Kind: KindLiteral, Value: api.Value{Kind: api.Str, S: string(text)}})
		}
		b, width := character(p.s[at:], r)
		if width == 0 || len(text) == api.MaxText {
			return wrong(at)
		}
		text = append(text, b)
		next = at + width
	}
	return wrong(len(p.s))
}

func (p place) word() (Token, int, api.Errno) {
	s := p.s[p.at:wordEnd(p.s, p.at)]
	end := p.at + len(s)
	if Word(s) {
		return p.upTo(end, Token{Kind: KindWord, S: strings.ToUpper(s)})
	}
	name := strings.ToLower(s)
	if !key.Name(name) {
		return wrong(p.at)
	}
	return p.upTo(end, Token{Kind: KindName, S: name})
}

// digitsEnd: the byte behind the digits from a byte on, between two of which there may be a _.
func digitsEnd(s string, from int) int {
	end, behindDigit := from, false
	for i, r := range s[from:] {
		switch {
		case isDigit(r):
			end, behindDigit = from+i+1, true
		case r == '_' && behindDigit:
			behindDigit = false
		default:
			return end
		}
	}
	return end
}

// wordEnd: the byte behind the letters, digits and _ from a byte on.
func wordEnd(s string, from int) int {
	for i, r := range s[from:] {
		if !isLetter(r) && !isDigit(r) && r != '_' {
			return from + i
		}
	}
	return len(s)
}

// character: the byte for which stands what s, whose first rune is r, begins with, and how many bytes that takes: 0, if it may not be.
func character(s string, r rune) (byte, int) {
	if isPlain(r) {
		return byte(r), 1
	}
	if r != '%' || len(s) < 3 {
		return 0, 0
	}
	high, low := strings.IndexByte(digits16, s[1]), strings.IndexByte(digits16, s[2])
	if high < 0 || low < 0 {
		return 0, 0
	}
	return byte(high*16 + low), 3
}

// isPlain: does it stand for itself in a Str?
func isPlain(r rune) bool { return r >= ' ' && r <= '~' && r != '\'' && r != '%' }

func isBlank(r rune) bool { return r == ' ' || r == '\t' || r == '\n' || r == '\r' }

func isLetter(r rune) bool { return r >= 'a' && r <= 'z' || r >= 'A' && r <= 'Z' }

func isDigit(r rune) bool { return r >= '0' && r <= '9' }
