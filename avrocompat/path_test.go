package avrocompat_test

import (
	"slices"
	"testing"

	"lexicon/api"
	"lexicon/avrocompat"
)

// TestPathEnds: P13.2: a path's first pair, if it is refused at the roots, and its last, if far within.
func TestPathEnds(t *testing.T) {
	for _, x := range [][2]string{
		{`"int"`, `"null"`}, {`"bytes"`, `"string"`}, {enum("E", "A"), enum("E", "B")}, {fixed("F", 1), fixed("F", 2)}, {record("R"), record("S")},
		{record("R"), record("R", field("a", `"int"`))}, {array(`"int"`), dict(`"int"`)}, {`"int"`, union(`"null"`, `"string"`)}, {array(`"int"`), union(dict(`"int"`), `"int"`)},
	} {
		if l := refused(t, made(x[0]), made(x[1])); !slices.Equal(l, path(0, 0)) {
			t.Errorf("P13.2: Path: %s, of %s: %s", x[1], x[0], show(l))
		}
		w, r := x[0], x[1]
		for range 20 {
			w, r = array(w), array(r)
		}
		var want []api.AvroStep
		for i := range 21 {
			want = append(want, path(i, i)...)
		}
		if l := refused(t, made(w), made(r)); !slices.Equal(l, want) {
			t.Errorf("P13.2: Path: %s, of %s: %s", r, w, show(l))
		}
	}
	// By a union on each side, by fields, by lists.
	w := record("R", field("a", union(`"null"`, array(record("S", field("x", `"int"`), field("y", dict(`"double"`)))))))
	r := record("a.R", field("a", union(array(record("b.S", field("y", dict(`"float"`)), field("x", `"int"`))), `"null"`)))
	refused(t, made(w), made(r))
	if l, _ := avrocompat.Path(made(r), made(w)); !slices.Equal(l, path(0, 0, 1, 1, 3, 1, 3, 2, 4, 3, 6, 4, 7, 5)) {
		t.Errorf("P13.2: Path: %s", show(l))
	}
}

// TestPathOfRecords: P13.2: a field of the reader's, without a default, that the writer's has not, is where it is refused, wherever it stands; else each value of the fields ahead of the one that is gone into may be turned.
func TestPathOfRecords(t *testing.T) {
	a, b := field("a", `"int"`), field("b", array(`"int"`))
	wrongA, wrongB, more := field("a", `"null"`), field("b", array(`"null"`)), field("c", `"int"`)
	d := fields(short(0), list())
	for _, l := range [][]string{{wrongA, wrongB, more}, {wrongA, more, wrongB}, {more, wrongA, wrongB}, {wrongB, more}, {more}, {a, more}, {wrongA, b, more}} {
		refusedBy(t, made(record("R", a, b)), made(record("R", l...)), path(0, 0), d)
	}
	// Within a field that is refused ahead of it, and behind it.
	refusedBy(t, made(record("R", field("x", record("S", a)), a)), made(record("R", field("x", record("S", wrongA)), wrongA, more)), path(0, 0), fields(fields(short(0)), short(0)))
	refusedBy(t, made(record("R", field("x", record("S", a)))), made(record("R", field("x", record("S", wrongA, more)))), path(0, 0, 1, 1), fields(fields(short(0))))
	// The first of two fields of which each value is refused.
	refusedBy(t, made(record("R", a, field("d", `"int"`))), made(record("R", wrongA, field("d", `"null"`))), path(0, 0, 1, 1), fields(short(0), short(0)))
	refusedBy(t, made(record("R", a, field("d", `"int"`))), made(record("R", field("d", `"null"`), wrongA)), path(0, 0, 2, 1), fields(short(0), short(0)))
	// Turning comes to no field behind one of which each value is refused, however far within.
	deep, wrongDeep := field("x", record("S", field("y", record("T", a)))), field("x", record("S", field("y", record("T", wrongA))))
	refusedBy(t, made(record("R", deep, a)), made(record("R", wrongDeep, wrongA)), path(0, 0, 1, 1, 2, 2, 3, 3), fields(fields(fields(short(0))), short(0)))
	refusedBy(t, made(record("R", deep, a)), made(record("R", wrongA, wrongDeep)), path(0, 0, 4, 1), fields(fields(fields(short(0))), short(0)))
	// It comes to one behind one of which some value is turned.
	some, wrongSome := field("x", union(`"null"`, `"int"`)), field("x", `"null"`)
	refusedBy(t, made(record("R", some, a)), made(record("R", wrongSome, wrongA)), path(0, 0, 4, 2), fields(branch(0, null()), short(0)))
	refusedBy(t, made(record("R", b, a)), made(record("R", wrongB, wrongA)), path(0, 0, 3, 3), fields(list(), short(0)))
	refusedBy(t, made(record("R", some)), made(record("R", wrongSome)), path(0, 0, 1, 1, 3, 1), fields(branch(1, short(0))))
	refusedBy(t, made(record("R", field("x", union(`"null"`, `"int"`)), a)), made(record("R", field("x", `"int"`), wrongA)), path(0, 0, 1, 1, 2, 1), fields(branch(0, null()), short(0)))
	refusedBy(t, made(record("R", field("x", union(`"int"`, `"null"`)), field("y", union(`"null"`, `"int"`)))), made(record("R", field("x", `"long"`), field("y", `"long"`))), path(0, 0, 1, 1, 3, 1), fields(branch(1, null()), branch(0, null())))
	// Fields that go together, that have a default, that the writer's alone has, are not gone into.
	refusedBy(t, made(record("R", a, field("z", `"int"`), field("d", `"int"`))), made(record("R", fieldOr("c", `"int"`, "1"), a, fieldOr("d", `"string"`, `""`))), path(0, 0, 3, 3), fields(short(0), short(0), short(0)))
}

// TestPathOnce: P13.2: no pair of a path twice, where pairs lead round.
func TestPathOnce(t *testing.T) {
	next, a, wrongA := field("n", union(`"null"`, `"R"`)), field("a", `"int"`), field("a", `"string"`)
	for _, l := range [][2][]string{{{next, a}, {next, wrongA}}, {{a, next}, {wrongA, next}}, {{a, next}, {next, wrongA}}} {
		w, r := made(record("R", l[0]...)), made(record("R", l[1]...))
		if p := refused(t, w, r); len(p) != 2 {
			t.Errorf("P13.2: Path: %s", show(p))
		}
	}
	// A way round that has to be gone, as each value of the first field is refused, at its end.
	w, r := made(record("R", next, a)), made(record("R", field("n", `"R"`), wrongA))
	refusedBy(t, w, r, path(0, 0, 1, 0, 2, 0), fields(branch(0, null()), short(0)))
	// Two of the reader's for one of the writer's: the pairs are two.
	w = made(record("R", field("n", union(`"null"`, `"R"`)), a))
	r = made(record("R", field("n", union(`"null"`, record("a.R", field("n", union(`"null"`, `"a.R"`)), wrongA)))))
	refusedBy(t, w, r, path(0, 0, 1, 1, 0, 1, 0, 3, 3, 6), fields(branch(1, fields(branch(0, null()), short(0))), short(0)))
}
