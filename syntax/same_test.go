package syntax_test

import (
	"math"
	"reflect"
	"testing"

	"skerry/api"
	"skerry/syntax"
)

func wantSame(t *testing.T, a, b api.Statement, want bool) {
	t.Helper()
	if syntax.Same(a, b) != want || syntax.Same(b, a) != want {
		t.Fatalf("Same(%+v, %+v) is %v, and %v the other way round, want %v", a, b, syntax.Same(a, b), syntax.Same(b, a), want)
	}
}

// full: a statement in which each field is set, which no text is parsed to.
func full() api.Statement {
	return api.Statement{
		Kind: api.DoInsert, Table: "t", Limit: 5, Time: 6, Timed: true, Level: api.Quorum,
		Schema:  api.Table{Name: "n", Part: "k", Row: "r", Columns: []api.Column{{Name: "a", Kind: api.Int}, {Name: "b", Kind: api.Str}}},
		Items:   []api.Item{{Column: "a", Value: api.Value{Kind: api.Int, N: 1, S: "x"}}, {Column: "b", Value: text("y")}},
		Columns: []string{"c", "d", "e"},
		Where:   []api.Cond{{Column: "k", Op: "=", Value: api.Value{Kind: api.Str, N: 2, S: "z"}}, cond("r", "<", number(5))},
	}
}

// eachField tells each number, text, truth value and list in a value.
func eachField(v reflect.Value, tell func(v reflect.Value)) {
	switch v.Kind() {
	case reflect.Struct:
		for i := range v.NumField() {
			eachField(v.Field(i), tell)
		}
	case reflect.Slice:
		tell(v)
		for i := range v.Len() {
			eachField(v.Index(i), tell)
		}
	default:
		tell(v)
	}
}

// changes: what a field may be instead.
func changes(v reflect.Value) []reflect.Value {
	var l []reflect.Value
	add := func(x any) { l = append(l, reflect.ValueOf(x).Convert(v.Type())) }
	switch v.Kind() {
	case reflect.Int:
		for _, n := range []int{v.Interface().(int) + 1, v.Interface().(int) - 1, -1 - v.Interface().(int), v.Interface().(int) + 1<<32, math.MaxInt, math.MinInt} {
			add(n)
		}
	case reflect.Bool:
		add(!v.Bool())
	case reflect.String:
		add(v.String() + "a")
		add(v.String() + "\x00")
		add("B" + v.String())
	case reflect.Slice:
		ahead, behind := reflect.MakeSlice(v.Type(), 1, 1), reflect.Append(v.Slice3(0, v.Len(), v.Len()), reflect.Zero(v.Type().Elem()))
		l = append(l, reflect.AppendSlice(ahead, v), behind)
		if v.Len() > 0 {
			l = append(l, v.Slice(1, v.Len()), v.Slice(0, v.Len()-1))
		}
		if v.Len() > 1 {
			turned := reflect.MakeSlice(v.Type(), 0, v.Len())
			for i := range v.Len() {
				turned = reflect.Append(turned, v.Index(v.Len()-1-i))
			}
			l = append(l, v.Slice(0, 0), turned)
		}
	}
	return l
}

// P19.2: statements that part in one field alone are not alike, whichever it is, good or not; in none they are.
func TestSameOneField(t *testing.T) {
	fields := 0
	for _, q := range append(samples(), full(), api.Statement{}) {
		wantSame(t, q, q, true)
		other := clone(q)
		wantSame(t, q, other, true)
		eachField(reflect.ValueOf(&other).Elem(), func(v reflect.Value) {
			was := reflect.New(v.Type()).Elem()
			was.Set(v)
			for _, change := range changes(v) {
				if v.Kind() != reflect.Slice && v.Equal(change) {
					continue
				}
				fields++
				v.Set(change)
				if alike(q, other) {
					t.Fatalf("%+v was not changed", q)
				}
				wantSame(t, q, other, false)
				wantSame(t, other, other, true)
				v.Set(was)
			}
			wantSame(t, q, other, true)
		})
	}
	if fields < 5000 {
		t.Errorf("%d changes: too few", fields)
	}
}

// P19.2: each two of the statements.
func TestSameOfTwo(t *testing.T) {
	all := append(samples(), full(), api.Statement{}, api.Statement{Kind: api.DoSelect}, api.Statement{Table: "t"})
	for _, a := range all {
		for _, b := range all {
			wantSame(t, a, b, alike(a, b))
			wantSame(t, clone(a), b, alike(a, b))
		}
	}
}

// P19.2 and R3: nil and empty lists are the same, and so are lists with room behind the end.
func TestSameEmpty(t *testing.T) {
	empty := func(q *api.Statement) {
		q.Schema.Columns = append(make([]api.Column, 0, 9), q.Schema.Columns...)
		q.Items, q.Columns, q.Where = append(make([]api.Item, 0, 9), q.Items...), append(make([]string, 0, 9), q.Columns...), append(make([]api.Cond, 0, 9), q.Where...)
	}
	for _, q := range append(samples(), full(), api.Statement{}) {
		wantSame(t, q, with(q, empty), true)
		wantSame(t, with(q, empty), with(q, empty), true)
	}
	for _, one := range []api.Statement{{Items: make([]api.Item, 1)}, {Columns: make([]string, 1)}, {Where: make([]api.Cond, 1)}, {Schema: api.Table{Columns: make([]api.Column, 1)}}} {
		wantSame(t, one, api.Statement{}, false)
		wantSame(t, one, with(one, empty), true)
		wantSame(t, one, with(api.Statement{}, empty), false)
	}
}
