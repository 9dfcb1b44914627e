package avroresolve_test

import (
	"fmt"
	"runtime"
	"slices"
	"strings"
	"testing"

	"lexicon/api"
	"lexicon/avro"
	"lexicon/avroresolve"
)

// many is one value many times.
func many(n int, d api.Datum) []api.Datum { return slices.Repeat([]api.Datum{d}, n) }

// keyed is a map of one value many times.
func keyed(n int, d api.Datum) api.Datum {
	v := api.Datum{Kind: api.AvroMap, List: many(n, d)}
	for i := range n {
		v.Keys = append(v.Keys, fmt.Sprint(i))
	}
	return v
}

// TestNumber: P12.1: what comes of it has at most MaxData values, a union and its branch's value being two, defaults' values counted too; what is passed over does not count.
func TestNumber(t *testing.T) {
	half := api.MaxData / 2
	with := func(or string) string { return record("S", fieldOr("d", array(`"int"`), or)) }
	three := fields(list(short(1), short(2))) // 4 values
	for _, x := range []struct {
		w, r string
		d    api.Datum
		want api.Datum // of Kind -1: refused
	}{
		{array(`"null"`), array(`"null"`), list(many(api.MaxData-1, null())...), list(many(api.MaxData-1, null())...)},
		{dict(`"int"`), dict(`"long"`), keyed(api.MaxData-1, short(1)), keyed(api.MaxData-1, long(1))},
		{array(`"int"`), array(union(`"long"`)), list(many(half-1, short(1))...), list(many(half-1, branch(0, long(1)))...)},
		{array(`"int"`), array(union(`"long"`)), list(many(half, short(1))...), api.Datum{Kind: -1}},
		{dict(`"int"`), dict(union(`"null"`, `"int"`)), keyed(half-1, short(1)), keyed(half-1, branch(1, short(1)))},
		{dict(`"int"`), dict(union(`"null"`, `"int"`)), keyed(half, short(1)), api.Datum{Kind: -1}},
		{array(`"int"`), array(union(`"int"`)), list(many(api.MaxData-1, short(1))...), api.Datum{Kind: -1}},
		// Just MaxData, and one more.
		{record("R", field("a", array(`"int"`))), record("R", field("a", array(union(`"int"`)))), fields(list(many(half-1, short(1))...)), fields(list(many(half-1, branch(0, short(1)))...))},
		{record("R", field("a", array(`"int"`)), field("b", `"null"`)), record("R", field("a", array(union(`"int"`))), field("b", `"null"`)), fields(list(many(half-1, short(1))...), null()), api.Datum{Kind: -1}},
		{record("R", field("a", array(`"int"`)), field("b", `"null"`)), record("R", field("a", array(union(`"int"`)))), fields(list(many(half-1, short(1))...), null()), fields(list(many(half-1, branch(0, short(1)))...))},
		{record("R", field("a", array(`"int"`))), record("R", field("a", array(union(`"int"`))), fieldOr("b", `"null"`, "null")), fields(list(many(half-1, short(1))...)), api.Datum{Kind: -1}},
		{record("R", field("a", array(`"int"`))), record("R", fieldOr("b", `"null"`, "null"), field("a", array(union(`"int"`)))), fields(list(many(half-1, short(1))...)), api.Datum{Kind: -1}},
		{array(`"int"`), union(array(`"int"`)), list(many(api.MaxData-2, short(1))...), branch(0, list(many(api.MaxData-2, short(1))...))},
		{array(`"int"`), union(array(`"int"`)), list(many(api.MaxData-1, short(1))...), api.Datum{Kind: -1}},
		{union(array(`"int"`)), array(`"int"`), branch(0, list(many(api.MaxData-2, short(1))...)), list(many(api.MaxData-2, short(1))...)},
		{array(union(`"int"`)), array(`"int"`), list(many(half-1, branch(0, short(1)))...), list(many(half-1, short(1))...)},
		// Each of many records has the default's values: 4 a record.
		{array(record("S")), array(with("[1,2]")), list(many(api.MaxData/4-1, fields())...), list(many(api.MaxData/4-1, three)...)},
		{array(record("S")), array(with("[1,2]")), list(many(api.MaxData/4, fields())...), api.Datum{Kind: -1}},
		{record("R", field("a", array(record("S"))), field("b", `"null"`), field("c", `"null"`)), record("R", field("a", array(with("[1,2]"))), field("b", `"null"`), field("c", `"null"`)),
			fields(list(many(api.MaxData/4-1, fields())...), null(), null()), fields(list(many(api.MaxData/4-1, three)...), null(), null())},
		{record("R", field("a", array(record("S"))), field("b", union(`"null"`))), record("R", field("a", array(with("[1,2]"))), field("b", union(`"null"`)), fieldOr("c", `"null"`, "null")),
			fields(list(many(api.MaxData/4-1, fields())...), branch(0, null())), api.Datum{Kind: -1}},
		// What the writer alone has is passed over.
		{record("R", field("a", array(`"null"`)), field("b", `"int"`)), record("R", field("b", array(`"int"`))), fields(list(many(api.MaxData-3, null())...), short(1)), api.Datum{Kind: -1}},
		{record("R", field("a", array(`"null"`)), field("b", `"int"`)), record("R", field("b", union(`"null"`, `"int"`)), fieldOr("c", array(`"int"`), "[1,2,3,4]")), fields(list(many(api.MaxData-3, null())...), short(1)), fields(branch(1, short(1)), list(short(1), short(2), short(3), short(4)))},
	} {
		w, r := made(x.w), made(x.r)
		if x.want.Kind < 0 {
			refuses(t, w, r, x.d)
		} else {
			turns(t, w, r, x.d, x.want)
		}
	}
}

// chainOf is a schema of so many lists in one another, and what they are of.
func chainOf(lists int, of ...api.AvroNode) api.Avro {
	s := api.Avro{}
	for i := range lists {
		s.Nodes = append(s.Nodes, api.AvroNode{Kind: api.AvroList, Kids: []int{i + 1}})
	}
	for _, n := range of {
		n.Kids = slices.Clone(n.Kids)
		for i := range n.Kids {
			n.Kids[i] += lists
		}
		s.Nodes = append(s.Nodes, n)
	}
	return s
}

// within is a value in so many lists.
func within(lists int, d api.Datum) api.Datum {
	for range lists {
		d = list(d)
	}
	return d
}

// TestDepth: P12.1: what comes of it has at most MaxDepth values in one another.
func TestDepth(t *testing.T) {
	whole := api.AvroNode{Kind: api.AvroInt}
	wide := []api.AvroNode{{Kind: api.AvroUnion, Kids: []int{1}}, {Kind: api.AvroLong}}
	turns(t, chainOf(63, whole), chainOf(63, wide[1]), within(63, short(1)), within(63, long(1)))
	turns(t, chainOf(62, whole), chainOf(62, wide...), within(62, short(1)), within(62, branch(0, long(1))))
	refuses(t, chainOf(63, whole), chainOf(63, wide...), within(63, short(1)))
	turns(t, chainOf(63, whole), chainOf(63, wide...), within(62, list()), within(62, list()))
	turns(t, chainOf(200, whole), chainOf(200, wide...), within(63, list()), within(63, list()))
	// A value is as deep as its deepest part, wherever that stands.
	w, r := made(record("R", field("a", array(`"R"`)))), made(record("R", field("a", array(union(`"R"`)))))
	deep := func(n int) (api.Datum, api.Datum) {
		d, want := fields(list()), fields(list())
		for range n {
			d, want = fields(list(d)), fields(list(branch(0, want)))
		}
		return d, want
	}
	for n, is := range map[int]bool{0: true, 1: true, 10: true, 19: true, 20: true, 21: false, 22: false, 30: false} {
		d, want := deep(n) // 3n + 2 values in one another
		one, wantOne := deep(3)
		for _, l := range [][]api.Datum{{d}, {one, d}, {d, one}, {one, d, one}} {
			var wants []api.Datum
			for _, v := range l {
				if nested(v) == nested(one) {
					wants = append(wants, branch(0, wantOne))
				} else {
					wants = append(wants, branch(0, want))
				}
			}
			if n < 20 {
				turns(t, w, r, fields(list(l...)), fields(list(wants...)))
			}
		}
		if is {
			turns(t, w, r, d, want)
		} else {
			refuses(t, w, r, d)
		}
	}
	// 64 by one more union around, and 65 by one more list.
	d, want := deep(20) // 62
	more := made(array(record("R", field("a", array(union(`"R"`))))))
	turns(t, made(array(record("R", field("a", array(`"R"`))))), more, list(d), list(want))
	turns(t, made(array(array(record("R", field("a", array(`"R"`)))))), made(array(array(record("R", field("a", array(union(`"R"`))))))), list(list(d)), list(list(want)))
	refuses(t, made(array(array(record("R", field("a", array(`"R"`)))))), made(array(union(array(record("R", field("a", array(union(`"R"`)))))))), list(list(d)))
	// A default may be the deepest part.
	for lists, is := range map[int]bool{1: true, 59: true, 60: true, 61: false, 62: false} {
		w := chainOf(lists, api.AvroNode{Kind: api.AvroRecord, Name: "R"})
		r := chainOf(lists, api.AvroNode{Kind: api.AvroRecord, Name: "R", Fields: []api.AvroField{{Name: "a", Type: lists + 1, Has: true, Default: value("[[1]]")}}},
			api.AvroNode{Kind: api.AvroList, Kids: []int{2}}, api.AvroNode{Kind: api.AvroList, Kids: []int{3}}, whole)
		if is {
			turns(t, w, r, within(lists, fields()), within(lists, fields(list(list(short(1))))))
		} else {
			refuses(t, w, r, within(lists, fields()))
		}
	}
}

// TestDefaultBounds: P12.2: a default as a value has at most MaxData values, and MaxDepth in one another.
func TestDefaultBounds(t *testing.T) {
	noughts := func(n int) api.JSON {
		return api.JSON{Kind: api.JSONList, List: slices.Repeat([]api.JSON{value("0")}, n)}
	}
	ints, unions := made(array(`"int"`)), made(array(union(`"int"`)))
	tells(t, ints, 0, noughts(api.MaxData-1), list(many(api.MaxData-1, short(0))...))
	denies(t, ints, 0, noughts(api.MaxData), api.ErrResolve)
	denies(t, ints, 0, noughts(api.MaxData+1), api.ErrResolve)
	denies(t, ints, 0, noughts(5*api.MaxData), api.ErrResolve)
	tells(t, unions, 0, noughts(api.MaxData/2-1), list(many(api.MaxData/2-1, branch(0, short(0)))...))
	denies(t, unions, 0, noughts(api.MaxData/2), api.ErrResolve)
	object := api.JSON{Kind: api.JSONObject}
	for i := range api.MaxData - 1 {
		object.Names, object.List = append(object.Names, fmt.Sprint(i)), append(object.List, value("0"))
	}
	tells(t, made(dict(`"int"`)), 0, object, keyed(api.MaxData-1, short(0)))
	object.Names, object.List = append(object.Names, "x"), append(object.List, value("0"))
	denies(t, made(dict(`"int"`)), 0, object, api.ErrResolve)

	nest := func(n int, v api.JSON) api.JSON {
		for range n {
			v = api.JSON{Kind: api.JSONList, List: []api.JSON{v}}
		}
		return v
	}
	whole := api.AvroNode{Kind: api.AvroInt}
	tells(t, chainOf(63, whole), 0, nest(63, value("7")), within(63, short(7)))
	tells(t, chainOf(64, whole), 0, nest(63, value("[]")), within(63, list()))
	denies(t, chainOf(64, whole), 0, nest(64, value("7")), api.ErrResolve)
	tells(t, chainOf(64, whole), 1, nest(63, value("7")), within(63, short(7)))
	wide := []api.AvroNode{{Kind: api.AvroUnion, Kids: []int{1}}, {Kind: api.AvroInt}}
	tells(t, chainOf(62, wide...), 0, nest(62, value("7")), within(62, branch(0, short(7))))
	denies(t, chainOf(63, wide...), 0, nest(63, value("7")), api.ErrResolve)
	// Unions make a default deeper than its text.
	s := made(record("R", field("a", array(union(`"R"`)))))
	for n, is := range map[int]bool{0: true, 19: true, 20: true, 21: false, 31: false} {
		v, d := value(`{"a":[]}`), fields(list())
		for range n {
			v = api.JSON{Kind: api.JSONObject, Names: []string{"a"}, List: []api.JSON{{Kind: api.JSONList, List: []api.JSON{v}}}}
			d = fields(list(branch(0, d)))
		}
		if is {
			tells(t, s, 0, v, d)
		} else {
			denies(t, s, 0, v, api.ErrResolve)
		}
	}
	// A field's default that is too much by itself is refused where it is due, and only there.
	for _, v := range []api.JSON{noughts(api.MaxData), noughts(2 * api.MaxData)} {
		r := made(record("R", field("a", `"int"`), field("b", array(`"int"`))))
		w := made(record("R", field("a", `"int"`)))
		r.Nodes[0].Fields[1].Has, r.Nodes[0].Fields[1].Default = true, v
		if avro.Check(r) != api.OK {
			t.Fatal("the tests' schema")
		}
		refuses(t, w, r, fields(short(1)))
		turns(t, made(record("R", field("a", `"int"`), field("b", array(`"int"`)))), r, fields(short(1), list()), fields(short(1), list()))
	}
}

// TestLongDefaults: P12.1: long defaults in so many records that it is refused are not copied ahead of that.
func TestLongDefaults(t *testing.T) {
	for _, x := range [][2]string{{`"string"`, strings.Repeat("a", 1<<18)}, {`"bytes"`, strings.Repeat("\u00e9", 1<<17)}, {fixed("F", 1<<16), strings.Repeat("a", 1<<16)}} {
		w, r := made(array(record("R"))), made(array(record("R", fieldOr("a", x[0], `"`+x[1]+`"`))))
		d := list(many(api.MaxData/2, fields())...)
		var from, to runtime.MemStats
		runtime.ReadMemStats(&from)
		v, e := avroresolve.Turn(w, r, d)
		runtime.ReadMemStats(&to)
		if e != api.ErrResolve || !same(v, api.Datum{}) || to.TotalAlloc-from.TotalAlloc > 1<<28 {
			t.Errorf("P12.1: Turn: %s, %d, by %d bytes", show(v), e, to.TotalAlloc-from.TotalAlloc)
		}
	}
	w, r := made(array(record("R"))), made(array(record("R", fieldOr("a", dict(`"null"`), `{"`+strings.Repeat("k", 1<<18)+`":null}`))))
	var from, to runtime.MemStats
	runtime.ReadMemStats(&from)
	v, e := avroresolve.Turn(w, r, list(many(api.MaxData/3+1, fields())...))
	runtime.ReadMemStats(&to)
	if e != api.ErrResolve || !same(v, api.Datum{}) || to.TotalAlloc-from.TotalAlloc > 1<<28 {
		t.Errorf("P12.1: Turn: %s, %d, by %d bytes", show(v), e, to.TotalAlloc-from.TotalAlloc)
	}
	// Texts are not bounded by themselves.
	long := strings.Repeat("a", api.MaxText+1)
	turns(t, made(array(`"string"`)), made(array(`"bytes"`)), list(text(long), text("")), list(binary(long), binary("")))
}
