package syntax_test

import (
	"math"
	"math/rand/v2"
	"reflect"
	"strconv"
	"strings"
	"testing"

	"skerry/api"
	"skerry/lexer"
	"skerry/syntax"
)

func anyName(source *rand.Rand) string {
	return anyOf(source, []string{"a", "b", "k", "r", "t", "z_9", "selects", "abcdefghijklmnop"})
}

func anyValue(source *rand.Rand) api.Value {
	if source.IntN(2) == 0 {
		return number(anyOf(source, []int{0, 1, -1, 1000, -123456, math.MaxInt, math.MinInt, source.Int()}))
	}
	return text(anyOf(source, []string{"", "x", "it's", "5%", "\x00\xff", "--", "(a, b)", strings.Repeat("y", 64), strings.Repeat("\x00", 64), "é"}))
}

func several[T any](source *rand.Rand, least, most int, tell func(source *rand.Rand) T) []T {
	var l []T
	for range least + source.IntN(most-least+1) {
		l = append(l, tell(source))
	}
	return l
}

// anyStatement: one that is good.
func anyStatement(source *rand.Rand) api.Statement {
	q := api.Statement{Kind: 1 + source.IntN(5), Table: anyName(source)}
	anyCond := func(source *rand.Rand) api.Cond {
		return cond(anyName(source), anyOf(source, []string{"=", ">=", "<"}), anyValue(source))
	}
	if q.Kind == api.DoCreate {
		q.Schema = api.Table{Name: q.Table, Part: anyName(source), Row: anyName(source)}
		q.Schema.Columns = several(source, 1, 6, func(source *rand.Rand) api.Column {
			return api.Column{Name: anyName(source), Kind: 1 + source.IntN(2)}
		})
		return q
	}
	q.Level = source.IntN(4)
	if q.Kind == api.DoInsert || q.Kind == api.DoUpdate {
		q.Items = several(source, 1, anyOf(source, []int{2, 2, 10}), func(source *rand.Rand) api.Item { return set(anyName(source), anyValue(source)) })
	} else {
		q.Columns = several(source, 0, anyOf(source, []int{2, 2, 10}), anyName)
	}
	if q.Kind != api.DoInsert {
		q.Where = several(source, 1, 4, anyCond)
	}
	if q.Kind == api.DoSelect {
		q.Limit = anyOf(source, []int{-1, 0, 1, 77, 1000000})
	} else if source.IntN(2) == 0 {
		q.Timed, q.Time = true, anyValue(source).N
	}
	return q
}

// written: the tokens of a text, each in some form that is another one of the same token.
func written(source *rand.Rand, s string) string {
	var out strings.Builder
	l, _ := slowTokens(s)
	for _, token := range l[:len(l)-1] {
		out.WriteString(anyOf(source, []string{" ", " ", " ", "\n", "\t ", " -- ?\n"}))
		part := s[token.At:token.End]
		switch {
		case token.Kind == lexer.KindWord || token.Kind == lexer.KindName:
			part = anyOf(source, []string{part, strings.ToLower(part), strings.ToUpper(part), strings.ToUpper(part[:1]) + strings.ToLower(part[1:])})
		case token.Value.Kind == api.Int && token.Value.N >= 1000 && source.IntN(2) == 0:
			part = "00" + part[:len(part)-3] + "_" + part[len(part)-3:]
		case token.Value.Kind == api.Str && strings.Contains(part, "a") && source.IntN(2) == 0:
			part = strings.ReplaceAll(part, "a", "%61")
		}
		out.WriteString(part)
	}
	return out.String()
}

// P19.1, P19.2 and P19.3: random statements, printed, and written in other ways.
func TestRandomStatements(t *testing.T) {
	source := newSource(1)
	long := 0
	for range 6000 {
		q := anyStatement(source)
		wantGood(t, q)
		s := written(source, slowPrint(q))
		got, at, e := syntax.Parse(s)
		if len(s) > api.MaxQuery {
			long++
			wantNone(t, s, 0, api.ErrText)
		} else if !alike(got, q) || at != 0 || e != api.OK {
			t.Fatalf("Parse(%q): %+v %d %v, want %+v", s, got, at, e, q)
		}
	}
	if long < 20 || long > 3000 {
		t.Errorf("%d texts were too long", long)
	}
}

// P19.1: random statements in which some tokens are others, left out, doubled or put elsewhere, against the grammar.
func TestRandomTokens(t *testing.T) {
	source := newSource(2)
	all := append(tokens(), "?", "'", "_")
	told := map[api.Errno]int{}
	for range 12000 {
		parts := cut(slowPrint(anyStatement(source)))
		for range 1 + source.IntN(3) {
			i, j := source.IntN(len(parts)), source.IntN(len(parts))
			switch source.IntN(6) {
			case 0:
				parts[i] = anyOf(source, all)
			case 1:
				parts = append(parts[:i:i], parts[min(i+1, len(parts)-1):]...)
			case 2:
				parts = append(parts[:i:i], append([]string{anyOf(source, all)}, parts[i:]...)...)
			case 3:
				parts[i], parts[j] = parts[j], parts[i]
			case 4:
				parts = append(parts[:max(i, j):max(i, j)], parts[min(i, j):]...)
			case 5:
				parts = parts[:i+1]
			}
		}
		told[wantSlow(t, strings.Join(parts, " "))]++
	}
	if told[api.OK] < 300 || told[api.ErrSyntax] < 5000 || told[api.ErrText] < 100 {
		t.Errorf("too few of a kind: %v", told)
	}
}

// P19.1: random tokens, behind the beginning of a statement.
func TestRandomEnds(t *testing.T) {
	source := newSource(3)
	for range 20000 {
		parts := cut(slowPrint(anyStatement(source)))
		parts = parts[:source.IntN(len(parts)+1)]
		for range source.IntN(6) {
			parts = append(parts, anyOf(source, tokens()))
		}
		wantSlow(t, strings.Join(parts, anyOf(source, []string{" ", "\n"})))
	}
}

// P19.1: random bytes, by themselves and within a statement.
func TestRandomBytes(t *testing.T) {
	source := newSource(4)
	for range 20000 {
		b := make([]byte, source.IntN(12))
		for i := range b {
			b[i] = byte(source.IntN(256))
		}
		s := slowPrint(anyStatement(source))
		at := source.IntN(len(s) + 1)
		wantSlow(t, anyOf(source, []string{string(b), s[:at] + string(b) + s[at:], s[:at] + string(b)}))
	}
}

// P19.2: random statements of which some fields are changed, against slowGood.
func TestRandomChanges(t *testing.T) {
	source := newSource(5)
	good := 0
	const many = 30000
	for range many {
		q := clone(anyStatement(source))
		for range 1 + source.IntN(2) {
			var fields []reflect.Value
			eachField(reflect.ValueOf(&q).Elem(), func(v reflect.Value) { fields = append(fields, v) })
			v := anyOf(source, fields)
			v.Set(anyOf(source, append(changes(v), others(source, v)...)))
		}
		if wantGoodAsSlow(t, q) {
			good++
		}
	}
	if good < many/20 || good > many/2 {
		t.Errorf("%d were good", good)
	}
}

// others: what a field may be that is nearly right.
func others(source *rand.Rand, v reflect.Value) []reflect.Value {
	switch v.Kind() {
	case reflect.Int:
		return []reflect.Value{reflect.ValueOf(source.IntN(7) - 1), reflect.ValueOf(0), reflect.ValueOf(1000001)}
	case reflect.String:
		return []reflect.Value{reflect.ValueOf(anyName(source)), reflect.ValueOf(anyOf(source, []string{"", "=", ">=", "<", "text", "t WHERE k = 1 --", strconv.Itoa(source.IntN(9))}))}
	}
	return nil
}
