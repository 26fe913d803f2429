package level_test

import (
	"strings"
	"testing"
	"unicode"

	"skerry/api"
	"skerry/level"
)

func wantParse(t *testing.T, s string, want int, ok bool) {
	t.Helper()
	if l, good := level.Parse(s); l != want || good != ok {
		t.Errorf("Parse(%q): %d %v, want %d %v", s, l, good, want, ok)
	}
}

// named: the levels by their names, in great letters.
func named() map[string]int {
	return map[string]int{"ONE": api.One, "QUORUM": api.Quorum, "ALL": api.All}
}

// P16.1: the levels' names; nothing of what is none.
func TestName(t *testing.T) {
	for name, l := range named() {
		if got := level.Name(l); got != name {
			t.Errorf("Name(%d): %q, want %q", l, got, name)
		}
	}
	for _, l := range noLevels() {
		if got := level.Name(l); got != "" {
			t.Errorf("Name(%d): %q, want nothing", l, got)
		}
	}
}

// P16.1: Parse undoes Name.
func TestParseUndoesName(t *testing.T) {
	for _, l := range levels() {
		wantParse(t, level.Name(l), l, true)
	}
	for _, l := range noLevels() {
		wantParse(t, level.Name(l), 0, false)
	}
}

// inSizes: a name with each choice of great and small letters.
func inSizes(name string) []string {
	out := []string{""}
	for i := range len(name) {
		var longer []string
		for _, s := range out {
			longer = append(longer, s+strings.ToUpper(name[i:i+1]), s+strings.ToLower(name[i:i+1]))
		}
		out = longer
	}
	return out
}

// P16.1: names in small, great and mixed letters.
func TestParseLetters(t *testing.T) {
	for _, s := range []string{"one", "ONE", "One", "oNe"} {
		wantParse(t, s, api.One, true)
	}
	for _, s := range []string{"quorum", "QUORUM", "Quorum", "qUoRuM"} {
		wantParse(t, s, api.Quorum, true)
	}
	for _, s := range []string{"all", "ALL", "All", "aLl"} {
		wantParse(t, s, api.All, true)
	}
	for name, l := range named() {
		for _, s := range inSizes(name) {
			wantParse(t, s, l, true)
		}
	}
}

// P16.1: texts that are no names.
func TestParseNone(t *testing.T) {
	for _, s := range []string{
		"", " ", "\x00", "1", "2", "3", "level", "none", "two", "any", "On", "ne", "Quoru", "uorum", "al", "ll",
		"ones", "quorums", "alls", "aquorum", "ball", "oone", "onne", "alll", "one one", "one,all", "oneall",
		"ONEQUORUMALL", "eno", "lla", "murouq", "o.n.e", "LOCAL_QUORUM", "EACH_QUORUM", "'one'", "one;", "one\x00",
		"\xffone", "one\xff", "o\xffe", "\xef\xbb\xbfone", "\ufeffall", "01", "０ne", strings.Repeat("one", 100000), strings.Repeat("\xff", 1000),
	} {
		wantParse(t, s, 0, false)
	}
}

// P16.1: a letter fewer, a letter or a blank more, at each place.
func TestParseNear(t *testing.T) {
	for name := range named() {
		for _, s := range []string{name, strings.ToLower(name)} {
			for i := range len(s) {
				wantParse(t, s[:i], 0, false)
				wantParse(t, s[i+1:], 0, false)
				wantParse(t, s[:i]+s[i+1:], 0, false)
			}
			for i := range len(s) + 1 {
				for b := range 256 {
					wantParse(t, s[:i]+string([]byte{byte(b)})+s[i:], 0, false)
				}
				for _, blank := range []string{" ", "  ", "\t", "\n", "\r\n", "\u00a0", "\u200b", "\u0301", "\u00ad"} {
					wantParse(t, s[:i]+blank+s[i:], 0, false)
				}
			}
		}
	}
}

// P16.1: with another byte in one place a name is one only if that is the same letter of the other size.
func TestParseOtherByte(t *testing.T) {
	for name, l := range named() {
		for i := range len(name) {
			for b := range 256 {
				s := name[:i] + string([]byte{byte(b)}) + name[i+1:]
				if byte(b) == name[i] || byte(b) == name[i]+'a'-'A' {
					wantParse(t, s, l, true)
				} else {
					wantParse(t, s, 0, false)
				}
			}
		}
	}
}

// P16.1: no sign beyond the first 128 stands for a letter, though some rules make some of them alike to K, S and others.
func TestParseBeyondASCII(t *testing.T) {
	for _, s := range []string{"ＯＮＥ", "оne", "οne", "ａｌｌ", "аll", "αll", "åll", "ÅLL", "Åll", "ÀLL", "quoгum", "ＱUORUM", "ɋuorum", "öne", "öne", "ºne", "aſſ", "aſl", "oneK", "ſone", "aIl", "aıl", "aİl", "ɴ", "oɴe", "ᴏne", "𝐎𝐍𝐄", "ⓞⓝⓔ"} {
		wantParse(t, s, 0, false)
	}
	for name := range named() {
		for i := range len(name) {
			for r := rune(128); r <= unicode.MaxRune; r++ {
				if l, ok := level.Parse(name[:i] + string(r) + name[i+1:]); l != 0 || ok {
					t.Fatalf("Parse of %q with %U at %d: %d %v", name, r, i, l, ok)
				}
			}
		}
	}
}
