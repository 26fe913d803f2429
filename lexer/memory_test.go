package lexer_test

import (
	"slices"
	"strings"
	"testing"

	"skerry/api"
	"skerry/lexer"
)

// R3: what Lex told is new, the room behind its end too: what is done to it is seen in no other answer.
func TestLexIsNew(t *testing.T) {
	for _, s := range append(pieces(), "", "a", "a,b,c", "select * from t where k = 'x'", strings.Repeat("a ", 300)) {
		want, _, _ := slowLex(s)
		first, _, _ := lexer.Lex(s)
		second, _, _ := lexer.Lex(s)
		for _, x := range first[:cap(first)][len(first):] {
			if x != (lexer.Token{}) {
				t.Fatalf("Lex(%.80q): %+v stands behind the end", s, x)
			}
		}
		first = first[:cap(first)]
		for i := range first {
			first[i] = lexer.Token{Kind: 77, S: "spoilt"}
		}
		third, _, _ := lexer.Lex(s)
		if !slices.Equal(second, want) || !slices.Equal(third, want) {
			t.Errorf("Lex(%.80q): what was done to an answer is seen: %+v %+v, want %+v", s, second, third, want)
		}
	}
}

// R4: an answer is the same whatever was asked ahead of it, and in whichever order.
func TestNothingIsKept(t *testing.T) {
	type answers struct {
		token, last  lexer.Token
		wrong, tells int
		e            api.Errno
		word         bool
		quoted       string
	}
	texts := append(pieces(), theWords()...)
	ask := func(i int) answers {
		s := texts[i%len(texts)] + " " + texts[i/7%len(texts)]
		var a answers
		a.token, _, _ = lexer.Next(s, i%(len(s)+1))
		l, wrong, e := lexer.Lex(s)
		if len(l) > 0 {
			a.last = l[len(l)-1]
		}
		a.tells, a.wrong, a.e, a.word, a.quoted = len(l), wrong, e, lexer.Word(texts[i%len(texts)]), lexer.Quote(s)
		return a
	}
	const many = 2000
	var first [many]answers
	for i := range many {
		first[i] = ask(i)
	}
	for i := many - 1; i >= 0; i-- {
		if got := ask(i); got != first[i] {
			t.Fatalf("call %d: %+v, and %+v at first", i, got, first[i])
		}
	}
}

// R4: calls at the same time answer the same, and none writes what another one reads (asked with -race).
func TestAtTheSameTime(t *testing.T) {
	const s = "update T set a = 'it%27s', b = -1_0 where k >= 5 -- note"
	want, _, _ := slowLex(s)
	done := make(chan bool)
	const many = 8
	for range many {
		go func() {
			ok := true
			for range 200 {
				l, wrong, e := lexer.Lex(s)
				ok = ok && slices.Equal(l, want) && wrong == 0 && e == api.OK
				_, wrong, e = lexer.Next(s+"\n?", len(s))
				ok = ok && wrong == len(s)+1 && e == api.ErrSyntax
				ok = ok && lexer.Word("Key") && !lexer.Word("keys") && lexer.Quote("%") == "'%25'"
			}
			done <- ok
		}()
	}
	for range many {
		if !<-done {
			t.Error("an answer is another one")
		}
	}
}
