package avroresolve_test

import (
	"fmt"
	"testing"

	"lexicon/api"
	"lexicon/avroresolve"
)

// branches complains if Branch does not tell that branch of the reader's union for the writer's node; below 0: none.
func branches(t *testing.T, w, r api.Avro, node, union int, want int) {
	t.Helper()
	e := api.OK
	if want < 0 {
		e = api.ErrResolve
	}
	if got, f := avroresolve.Branch(w, r, node, union); got != max(want, 0) || f != e {
		t.Errorf("P12.2: Branch of %s, %s, %d, %d: %d, %d; not %d, %d", show(w), show(r), node, union, got, f, max(want, 0), e)
	}
	if at, ok := (model{w, r}).branchFor(node, union); ok != (want >= 0) || at != max(want, 0) {
		t.Errorf("the tests' model: %s, %s, %d, %d", show(w), show(r), node, union)
	}
}

// TestBranch: P12.1, P12.2: the branch for a node: the first of its Kind and Name, else of its Kind and last part, else the first into which it goes.
func TestBranch(t *testing.T) {
	f := func(name string) string { return fixed(name, 1) }
	for _, x := range []struct {
		w, r string
		want int // below 0: none
	}{
		{`"int"`, union(`"null"`, `"long"`, `"int"`), 2},
		{`"int"`, union(`"null"`, `"long"`), 1},
		{`"int"`, union(`"int"`), 0},
		{`"int"`, union(`"long"`, `"float"`, `"double"`), 0},
		{`"int"`, union(`"double"`, `"float"`, `"long"`), 0},
		{`"int"`, union(`"string"`, `"float"`, `"long"`, `"double"`), 1},
		{`"int"`, union(`"null"`, `"boolean"`, `"bytes"`, `"string"`), -1},
		{`"long"`, union(`"int"`, `"double"`, `"float"`), 1},
		{`"long"`, union(`"int"`), -1},
		{`"long"`, union(`"float"`, `"long"`), 1},
		{`"float"`, union(`"int"`, `"long"`), -1},
		{`"float"`, union(`"int"`, `"long"`, `"double"`), 2},
		{`"float"`, union(`"double"`, `"float"`), 1},
		{`"double"`, union(`"int"`, `"long"`, `"float"`), -1},
		{`"double"`, union(`"int"`, `"long"`, `"float"`, `"double"`), 3},
		{`"bytes"`, union(f("F"), `"string"`), 1},
		{`"bytes"`, union(`"string"`, `"bytes"`), 1},
		{`"bytes"`, union(f("F"), `"null"`), -1},
		{`"string"`, union(enum("E", "A"), `"bytes"`), 1},
		{`"string"`, union(`"bytes"`, `"string"`), 1},
		{`"null"`, union(`"int"`, `"null"`), 1},
		{`"null"`, union(`"int"`), -1},
		{`"boolean"`, union(`"int"`, `"long"`, `"boolean"`), 2},
		{`"boolean"`, union(`"int"`, `"string"`), -1},
		{array(`"int"`), union(`"null"`, dict(`"int"`), array(`"string"`)), 2},
		{array(`"int"`), union(dict(`"int"`)), -1},
		{dict(`"int"`), union(array(`"int"`), dict(`"null"`)), 1},
		{dict(`"int"`), union(array(`"int"`)), -1},
		{f("a.F"), union(f("F"), f("b.F"), f("a.F")), 2},
		{f("a.F"), union(f("F"), f("a.F"), f("b.F")), 1},
		{f("a.F"), union(f("G"), f("b.F"), f("c.F"), f("F")), 1},
		{f("F"), union(f("a.F"), f("F")), 1},
		{f("F"), union(f("G"), f("a.F"), f("b.F")), 1},
		{f("a.F"), union(f("F.a"), f("a.G"), f("a.FF"), f("f")), -1},
		{f("a.F"), union(record("a.F"), enum("b.F", "A"), f("c.F")), 2},
		{f("a.F"), union(record("a.F"), enum("b.F", "A")), -1},
		{enum("a.F", "A"), union(record("a.F"), f("b.F"), enum("c.F", "B")), 2},
		{record("a.F"), union(enum("a.F", "A"), f("b.F"), record("F", field("x", `"int"`))), 2},
		{record("a.F"), union(record("b.F"), record("c.a.F"), record("a.F")), 2},
		{record("a.F"), union(`"string"`, `"bytes"`, dict(`"int"`)), -1},
		{f("a.F"), union(`"bytes"`, `"string"`), -1},
		{enum("a.F", "A"), union(`"string"`, `"int"`), -1},
		{union(`"int"`), union(`"int"`), -1},
		{union(`"null"`, `"int"`), union(`"null"`, `"int"`), -1},
	} {
		branches(t, made(x.w), made(x.r), 0, 0, x.want)
	}
}

// TestBranchWithin: P12.2: Branch goes by the nodes that it is told, also by those within.
func TestBranchWithin(t *testing.T) {
	w := made(record("W", field("a", `"int"`), field("b", array(`"string"`)), field("c", union(`"null"`, `"W"`)), field("d", `"float"`)))
	r := made(record("a.W", field("a", union(`"null"`, `"double"`, array(union(`"bytes"`, `"a.W"`)), `"float"`)), field("b", dict(union(`"string"`, `"long"`)))))
	// w: 0 W, 1 int, 2 list, 3 string, 4 union, 5 null, 6 float; r: 0 W, 1 union, 2 null, 3 double, 4 list, 5 union, 6 bytes, 7 float, 8 map, 9 union, 10 string, 11 long.
	for union, want := range map[int][7]int{
		1: {-1, 1, 2, -1, -1, 0, 3},
		5: {1, -1, -1, 0, -1, -1, -1},
		9: {-1, 1, -1, 0, -1, -1, -1},
	} {
		for node, at := range want {
			branches(t, w, r, node, union, at)
		}
	}
}

// TestWriterUnions: P12.1: a union's value is that of its branch, whichever it is; branches that go nowhere do not count.
func TestWriterUnions(t *testing.T) {
	w := union(`"null"`, `"int"`, `"string"`, array(`"int"`), fixed("a.F", 1), record("a.R", field("x", `"int"`)))
	values := []api.Datum{null(), short(3), text("a"), list(short(1)), fix("b"), fields(short(2))}
	for _, x := range []struct {
		r    string
		want []api.Datum // of Kind -1: refused
	}{
		{`"null"`, []api.Datum{null(), {Kind: -1}, {Kind: -1}, {Kind: -1}, {Kind: -1}, {Kind: -1}}},
		{`"double"`, []api.Datum{{Kind: -1}, double(bits64(3)), {Kind: -1}, {Kind: -1}, {Kind: -1}, {Kind: -1}}},
		{`"bytes"`, []api.Datum{{Kind: -1}, {Kind: -1}, binary("a"), {Kind: -1}, {Kind: -1}, {Kind: -1}}},
		{array(`"long"`), []api.Datum{{Kind: -1}, {Kind: -1}, {Kind: -1}, list(long(1)), {Kind: -1}, {Kind: -1}}},
		{fixed("F", 1), []api.Datum{{Kind: -1}, {Kind: -1}, {Kind: -1}, {Kind: -1}, fix("b"), {Kind: -1}}},
		{record("R"), []api.Datum{{Kind: -1}, {Kind: -1}, {Kind: -1}, {Kind: -1}, {Kind: -1}, fields()}},
		{`"boolean"`, []api.Datum{{Kind: -1}, {Kind: -1}, {Kind: -1}, {Kind: -1}, {Kind: -1}, {Kind: -1}}},
	} {
		for at, d := range values {
			if x.want[at].Kind < 0 {
				refusesEverywhere(t, w, x.r, branch(int64(at), d))
			} else {
				turnsEverywhere(t, w, x.r, branch(int64(at), d), x.want[at])
			}
		}
	}
}

// TestUnions: P12.1: unions on both sides: the writer's branch's value is turned into the reader's branch for it.
func TestUnions(t *testing.T) {
	w := union(`"null"`, `"int"`, `"float"`, `"bytes"`, fixed("a.F", 1), fixed("b.F", 1))
	r := union(`"string"`, fixed("b.F", 1), `"double"`, fixed("c.F", 1), `"null"`, `"float"`)
	for at, x := range []struct{ d, want api.Datum }{
		{null(), branch(4, null())},
		{short(3), branch(2, double(bits64(3)))},
		{float(7), branch(5, float(7))},
		{binary("x"), branch(0, text("x"))},
		{fix("y"), branch(1, fix("y"))}, // a.F: the first of the last part
		{fix("z"), branch(1, fix("z"))},
	} {
		turnsEverywhere(t, w, r, branch(int64(at), x.d), x.want)
	}
	refusesEverywhere(t, w, r, branch(3, binary("\xff")))
	turnsEverywhere(t, w, w, branch(5, fix("z")), branch(5, fix("z")))
	turnsEverywhere(t, union(`"null"`), union(`"null"`), branch(0, null()), branch(0, null()))
	refusesEverywhere(t, union(`"null"`), union(`"int"`), branch(0, null()))
	// Lists of unions, unions of lists, one in the other.
	w = union(`"null"`, array(union(`"int"`, `"null"`)))
	r = union(array(union(`"null"`, `"double"`)), `"null"`)
	turnsEverywhere(t, w, r, branch(1, list(branch(1, null()), branch(0, short(2)))), branch(0, list(branch(0, null()), branch(1, double(bits64(2))))))
	turnsEverywhere(t, w, r, branch(0, null()), branch(1, null()))
	turnsEverywhere(t, w, array(union(`"null"`, `"double"`)), branch(1, list(branch(1, null()))), list(branch(0, null())))
	turnsEverywhere(t, array(`"int"`), r, list(short(2)), branch(0, list(branch(1, double(bits64(2))))))
}

// TestOneBranch: P12.1: the branch for a node is one; what is refused there is not tried in another.
func TestOneBranch(t *testing.T) {
	// A later one would do.
	refuses(t, made(fixed("a.F", 1)), made(union(fixed("b.F", 2), fixed("c.F", 1))), fix("x"))
	turns(t, made(fixed("a.F", 1)), made(union(fixed("c.F", 1), fixed("b.F", 2))), fix("x"), branch(0, fix("x")))
	refuses(t, made(fixed("a.F", 1)), made(union(fixed("b.F", 1), fixed("a.F", 2))), fix("x"))
	refuses(t, made(enum("a.E", "A", "B")), made(union(enum("a.E", "A"), enum("b.E", "A", "B"))), symbol(1))
	turns(t, made(enum("a.E", "A", "B")), made(union(enum("c.E", "A", "B"), enum("b.E", "A"))), symbol(1), branch(0, symbol(1)))
	refuses(t, made(record("a.R")), made(union(record("a.R", field("x", `"int"`)), record("b.R"))), fields())
	turns(t, made(record("a.R")), made(union(record("b.R"), record("a.R", fieldOr("x", `"int"`, "1")))), fields(), branch(1, fields(short(1))))
	refuses(t, made(array(`"int"`)), made(union(array(`"string"`), `"null"`)), list(short(1)))
	refuses(t, made(dict(`"int"`)), made(union(`"null"`, dict(`"string"`))), dicted("a", short(1)))
	turns(t, made(dict(`"int"`)), made(union(`"null"`, dict(`"string"`))), dicted(), branch(1, dicted()))
}

// TestManyBranches: P12.1, P12.2: the branch is found among as many as there may be.
func TestManyBranches(t *testing.T) {
	var spaced, other []string
	for i := range 250 {
		spaced = append(spaced, fixed(fmt.Sprintf("s%d.F", i), 1))
		other = append(other, fixed(fmt.Sprintf("s.F%d", i), 1))
	}
	many, apart := made(union(spaced...)), made(union(other...))
	for i := range 250 {
		branches(t, made(spaced[i]), many, 0, 0, i)
		turns(t, made(spaced[i]), many, fix("x"), branch(int64(i), fix("x")))
		branches(t, made(fixed(fmt.Sprintf("t.F%d", i), 1)), apart, 0, 0, i)
		refuses(t, many, apart, branch(int64(i), fix("x")))
	}
}
