package avrocompat_test

import (
	"fmt"
	"slices"
	"testing"

	"lexicon/api"
	"lexicon/avrocompat"
)

// has complains if Values of a schema is not that, a letter a node: v of one that has values, - of one that has none.
func has(t *testing.T, of string, want string) {
	t.Helper()
	s := made(of)
	l, e := avrocompat.Values(s)
	got := ""
	for _, is := range l {
		got += map[bool]string{true: "v", false: "-"}[is]
	}
	if got != want || e != api.OK {
		t.Errorf("P13.1: Values of %s: %s, %d, not %s", of, got, e, want)
	}
	if model := valuesOf(s); !slices.Equal(l, model) {
		t.Errorf("the tests' model: %s: %v, %v", of, l, model)
	}
}

// TestValues: P13.1: which nodes have values: a record, if all of its fields' nodes do; a union, if a branch does; each other one.
func TestValues(t *testing.T) {
	for _, kind := range kinds() {
		want := "v"
		if kind[0] == '{' && (kind == array(`"null"`) || kind == dict(`"null"`)) {
			want = "vv"
		}
		has(t, kind, want)
		has(t, union(kind), "v"+want)
	}
	self := record("R", field("r", `"R"`))
	has(t, record("E"), "v")
	has(t, self, "-")
	has(t, array(self), "v-")
	has(t, dict(self), "v-")
	has(t, union(self), "--")
	has(t, union(self, `"null"`), "v-v")
	has(t, union(`"null"`, self), "vv-")
	has(t, union(array(self)), "vv-")
	has(t, array(array(union(self))), "vv--")
	has(t, record("S", field("a", self)), "--")
	has(t, record("S", field("a", `"int"`), field("b", self), field("c", `"int"`)), "-v-v")
	has(t, record("S", field("a", self), field("b", array(`"R"`))), "--v")
	has(t, record("R", field("r", array(`"R"`))), "vv")
	has(t, record("R", field("r", dict(`"R"`))), "vv")
	has(t, record("R", field("r", union(`"R"`))), "--")
	has(t, record("R", field("r", union(`"R"`, `"null"`))), "vvv")
	has(t, record("R", field("r", union(array(`"R"`)))), "vvv")
	has(t, record("R", field("r", union(`"null"`, `"R"`)), field("s", `"R"`)), "-vv")
	has(t, record("R", fieldOr("r", union(`"null"`, `"R"`), "null"), field("s", `"int"`)), "vvvv")
	// Two that hold each other; one may leave.
	has(t, record("A", field("b", record("B", field("a", `"A"`)))), "--")
	has(t, record("A", field("b", record("B", field("a", union(`"A"`, `"int"`))))), "vvvv")
	has(t, record("A", field("b", record("B", field("a", union(`"A"`, `"B"`))))), "---")
	has(t, union(record("A", field("b", record("B", field("a", union(`"A"`, `"B"`))))), `"B"`), "----")
	has(t, union(record("A", field("b", record("B", field("a", union(`"A"`, `"B"`))))), `"B"`, enum("E", "A")), "v---v")
	// A union of nothing but such, and what holds it.
	has(t, record("T", field("u", union(self, record("Q", field("r", `"R"`)))), field("x", `"int"`)), "----v")
}

// TestLongWays: P13.1: what has values only by a way through all of its nodes, or has none at its end.
func TestLongWays(t *testing.T) {
	for _, second := range []api.AvroKind{api.AvroRecord, api.AvroUnion} {
		var kinds []api.AvroKind
		for range 128 {
			kinds = append(kinds, api.AvroRecord, second)
		}
		for _, n := range []int{100, 253, 255} {
			for _, ends := range []bool{true, false} {
				last := api.AvroNode{Kind: api.AvroRecord, Name: "z.Z"}
				if !ends {
					last.Fields = []api.AvroField{{Name: "a"}}
				}
				s := right(t, chain(last, kinds[:n]...))
				l, e := avrocompat.Values(s)
				if e != api.OK || len(l) != n+1 || slices.Contains(l, !ends) {
					t.Errorf("P13.1: Values: %v, %d", l, e)
				}
				reads(t, s, s)
				if ends {
					refused(t, s, made(`"int"`))
				} else {
					reads(t, s, made(`"int"`))
				}
			}
		}
	}
}

// name is a record's name of its own, whose last part is R.
func name(i int) string { return fmt.Sprintf("n%d.R", i) }

// TestNoValues: P13.1: what is refused beneath a node that has no value is never met.
func TestNoValues(t *testing.T) {
	self := record("R", field("r", `"R"`))
	for _, r := range kinds() {
		reads(t, made(self), made(r))
		reads(t, made(record("A", field("b", record("B", field("a", `"A"`))))), made(r))
		reads(t, made(record("T", field("a", self), field("b", `"int"`))), made(r))
		reads(t, made(union(self)), made(r))
		reads(t, made(union(self, record("Q", field("r", `"R"`)))), made(r))
		readsEverywhere(t, array(self), array(r))
		readsEverywhere(t, dict(self), dict(r))
		readsEverywhere(t, union(self, `"int"`), `"long"`)
		readsEverywhere(t, array(union(self)), array(r))
		readsEverywhere(t, record("S", field("a", array(self))), record("S", field("a", array(r))))
	}
	// A field that is refused, beside one that has no value.
	reads(t, made(record("T", field("a", `"int"`), field("b", self))), made(record("T", field("a", `"null"`))))
	reads(t, made(record("T", field("a", `"int"`), field("b", self))), made(record("T", field("x", `"null"`))))
	// But for it.
	refused(t, made(record("T", field("a", `"int"`), field("b", array(self)))), made(record("T", field("a", `"null"`))))
	refusedEverywhere(t, array(self), dict(self))
	refusedEverywhere(t, array(self), `"null"`)
	refusedEverywhere(t, union(`"null"`, self), `"int"`)
	refusedBy(t, made(union(self, `"null"`)), made(union(`"int"`, `"string"`)), path(0, 0, 2, 0), branch(1, null()))
	refusedBy(t, made(record("T", field("a", union(self, `"null"`)), field("b", `"int"`))), made(record("T", field("b", `"null"`))), path(0, 0, 4, 1), fields(branch(1, null()), short(0)))
	// The reader's may have none: what comes to it is refused, and what does not is read.
	refused(t, made(record("R", field("r", `"int"`))), made(self))
	refused(t, made(record("R")), made(self))
	refused(t, made(record("R", field("r", array(`"R"`)))), made(self))
	reads(t, made(array(self)), made(array(self)))
	reads(t, made(`"int"`), made(union(self, `"int"`)))
	reads(t, made(record("S")), made(union(self, record("a.S"))))
}

// TestRound: P13.1, P13.2: nodes that lead round, in the writer's, in the reader's, in both.
func TestRound(t *testing.T) {
	of := func(fields ...string) string { return record("R", fields...) }
	next := field("n", union(`"null"`, `"R"`))
	list, a := field("l", array(`"R"`)), field("a", `"int"`)
	third := record("T.R", field("l", array(`"S.R"`)), a)
	for _, x := range [][2]string{
		{of(next), of(next)},
		{of(next), of()},
		{of(next, a), of(field("a", `"long"`), next)},
		{of(list), of(list)},
		{of(next, list), of(list, next)},
		{of(list, a), of(field("l", array(record("S.R", field("l", array(`"S.R"`)), a))))},
		{of(list), of(field("l", array(record("S.R"))))},
		{of(field("n", union(`"R"`, `"null"`))), of(field("n", union(`"null"`, record("S.R", field("n", union(`"R"`, `"null"`))))))},
		{of(field("l", array(record("S.R", field("l", array(`"S.R"`)), a))), a), of(list, a)},
		{of(field("l", array(record("S.R", field("l", array(record("T.R", field("l", array(`"R"`)))))))), a), of(field("l", array(record("S.R", field("l", array(`"R"`))))))},
		{of(next), of(field("n", union(`"R"`, `"null"`, `"string"`)))},
		{of(field("n", union(`"null"`, `"R"`, `"bytes"`))), of(field("n", union(`"R"`, `"null"`, `"bytes"`)), fieldOr("m", union(`"null"`, `"R"`), "null"))},
	} {
		reads(t, made(x[0]), made(x[1]))
		if !modelOf(made(x[0]), made(x[1])).reads() {
			t.Errorf("the tests' model: %s, of %s", x[1], x[0])
		}
	}
	for _, x := range [][2]string{
		{of(next), of(field("n", `"R"`))},
		{of(next), of(field("n", `"null"`))},
		{of(next, a), of(next, field("a", `"string"`))},
		{of(list), of(list, a)},
		{of(list), of(field("l", dict(`"R"`)))},
		{of(list), of(field("l", array(record("S.R", a))))},
		{of(list), of(field("l", array(record("S.R", field("l", array(third))))))},
		{of(list, a), of(field("l", array(record("S.R", field("l", array(`"R"`)), field("a", `"boolean"`)))))},
		{of(field("l", array(record("S.R", field("l", array(record("T.R", field("l", array(`"R"`)))))))), a), of(field("l", array(record("S.R", field("l", array(`"R"`)), a))))},
		{of(field("n", union(`"null"`, `"R"`, `"string"`))), of(field("n", union(`"R"`, `"null"`)))},
	} {
		refused(t, made(x[0]), made(x[1]))
		if modelOf(made(x[0]), made(x[1])).reads() {
			t.Errorf("the tests' model: %s, of %s", x[1], x[0])
		}
	}
}

// ring is a schema of so many records of one last part, each with a field n that lists the next one, the last one's the first; one of them has one more field, x, with a default or without.
func ring(many, at int, of api.AvroNode, or ...api.JSON) api.Avro {
	var s api.Avro
	for i := range many {
		n := api.AvroNode{Kind: api.AvroRecord, Name: name(i), Fields: []api.AvroField{{Name: "n", Type: 2*i + 1}}}
		if i == at {
			n.Fields = append(n.Fields, api.AvroField{Name: "x", Type: 2 * many, Has: len(or) > 0})
			if len(or) > 0 {
				n.Fields[1].Default = or[0]
			}
		}
		s.Nodes = append(s.Nodes, n, api.AvroNode{Kind: api.AvroList, Kids: []int{(2*i + 2) % (2 * many)}})
	}
	s.Nodes = append(s.Nodes, of)
	return s
}

// TestRings: P13.1, P13.2: of two rings, each pair of records is come to, one behind the other: the one that is refused is found, wherever it stands, and the path to it has each pair ahead of it once.
func TestRings(t *testing.T) {
	whole, text := api.AvroNode{Kind: api.AvroInt}, api.AvroNode{Kind: api.AvroText}
	or := api.JSON{Kind: api.JSONText}
	for _, x := range []struct{ w, r, a, b int }{{1, 1, 0, 0}, {2, 1, 1, 0}, {1, 2, 0, 1}, {3, 2, 2, 1}, {3, 2, 1, 0}, {7, 9, 6, 8}, {5, 8, 0, 7}, {127, 1, 126, 0}, {1, 127, 0, 126}, {127, 126, 126, 125}, {126, 127, 125, 126}, {127, 126, 0, 1}} {
		w, r := ring(x.w, x.a, whole), ring(x.r, x.b, text, or)
		var want []api.AvroStep
		i, j := 0, 0
		for ; i != x.a || j != x.b; i, j = (i+1)%x.w, (j+1)%x.r {
			want = append(want, path(2*i, 2*j, 2*i+1, 2*j+1)...)
		}
		want = append(want, path(2*i, 2*j, 2*x.w, 2*x.r)...)
		ok, e := avrocompat.Reads(r, w)
		l, f := avrocompat.Path(r, w)
		if ok || e != api.OK || f != api.OK || !slices.Equal(l, want) {
			t.Errorf("P13.1, P13.2: %v: %t, %d, %d steps, %d, not %d steps", x, ok, e, len(l), f, len(want))
		}
		d, e := avrocompat.Witness(r, w)
		if len(want) > api.MaxDepth {
			if e != api.ErrLong || !same(d, api.Datum{}) {
				t.Errorf("P13.2: Witness: %v: %s, %d", x, show(d), e)
			}
		} else {
			witnesses(t, w, r, d, e)
		}
		// Where the two do not meet, or go together, all is read.
		reads(t, w, ring(x.r, x.b, whole, api.JSON{Kind: api.JSONNumber}))
	}
	for _, x := range [][4]int{{2, 2, 0, 1}, {6, 4, 0, 1}, {4, 6, 2, 5}, {9, 6, 8, 4}, {126, 124, 125, 0}} {
		reads(t, ring(x[0], x[2], whole), ring(x[1], x[3], text, or))
	}
}
