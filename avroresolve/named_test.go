package avroresolve_test

import (
	"fmt"
	"slices"
	"strings"
	"testing"

	"lexicon/api"
)

// TestFixed: P12.1: fixed ones of one last part, in whatever space, and of one Size have the same bytes; others are refused.
func TestFixed(t *testing.T) {
	for _, size := range []int{0, 1, 2, 16, 1 << 16} {
		d := fix(strings.Repeat("\xff", size/2) + strings.Repeat("\x00", size-size/2))
		for _, w := range []string{"F", "a.F", "a.b.F"} {
			for _, r := range []string{"F", "a.F", "b.F", "a.b.c.F"} {
				turnsEverywhere(t, fixed(w, size), fixed(r, size), d, d)
				for _, other := range []int{size + 1, size - 1, 2*size + 1} {
					if 0 <= other && other <= 1<<16 {
						refusesEverywhere(t, fixed(w, size), fixed(r, other), d)
					}
				}
			}
			for _, r := range []string{"G", "f", "FF", "F_", "a.G", "F.a", "a.F.b", "a.aF", "b.F1"} {
				refusesEverywhere(t, fixed(w, size), fixed(r, size), d)
			}
		}
	}
}

// TestEnums: P12.1: a symbol is the reader's of the same text, wherever it stands, else the reader's default, else it is refused.
func TestEnums(t *testing.T) {
	w := enum("a.E", "A", "B", "C", "D")
	for _, x := range []struct {
		r    string
		want [4]int64 // below 0: refused
	}{
		{enum("E", "A", "B", "C", "D"), [4]int64{0, 1, 2, 3}},
		{enum("b.E", "D", "C", "B", "A"), [4]int64{3, 2, 1, 0}},
		{enum("a.E", "x", "C", "y", "A", "D", "z", "B"), [4]int64{3, 6, 1, 4}},
		{enum("a.E", "B", "C"), [4]int64{-1, 0, 1, -1}},
		{enum("a.E", "x"), [4]int64{-1, -1, -1, -1}},
		{enum("a.E", "a", "b", "c", "d"), [4]int64{-1, -1, -1, -1}},
		{enum("a.E", "AA", "B_", "_C", "D"), [4]int64{-1, -1, -1, 3}},
		{enumOr("C", "a.E", "B", "C"), [4]int64{1, 0, 1, 1}},
		{enumOr("B", "a.E", "B", "C"), [4]int64{0, 0, 1, 0}},
		{enumOr("x", "b.c.E", "D", "y", "x", "A"), [4]int64{3, 2, 2, 0}},
		{enumOr("x", "E", "x"), [4]int64{0, 0, 0, 0}},
		{enumOr("A", "E", "D", "C", "B", "A"), [4]int64{3, 2, 1, 0}},
	} {
		for at, want := range x.want {
			// The writer's default does not count.
			for _, w := range []string{w, enumOr("A", "a.E", "A", "B", "C", "D"), enumOr("D", "a.E", "A", "B", "C", "D")} {
				if want < 0 {
					refusesEverywhere(t, w, x.r, symbol(int64(at)))
				} else {
					turnsEverywhere(t, w, x.r, symbol(int64(at)), symbol(want))
				}
			}
		}
	}
	for _, r := range []string{"F", "e", "EE", "a.F", "E.a"} {
		refusesEverywhere(t, w, enum(r, "A", "B", "C", "D"), symbol(0))
		refusesEverywhere(t, w, enumOr("A", r, "A", "B", "C", "D"), symbol(0))
	}
	var symbols []string
	for i := range 256 {
		symbols = append(symbols, fmt.Sprint("S", i))
	}
	turned := slices.Clone(symbols)
	slices.Reverse(turned)
	for i := range int64(256) {
		turns(t, made(enum("E", symbols...)), made(enum("E", turned...)), symbol(i), symbol(255-i))
		if i < 200 {
			refuses(t, made(enum("E", symbols...)), made(enum("E", turned[:56]...)), symbol(i))
			turns(t, made(enum("E", symbols...)), made(enumOr("S200", "E", turned[:56]...)), symbol(i), symbol(55))
		}
	}
}

// abc are three fields, of texts.
func abc() []string {
	return []string{field("a", `"string"`), field("b", `"string"`), field("c", `"string"`)}
}

// TestFields: P12.1: a record has the reader's fields, in the reader's order, each the writer's of that Name, turned; what the writer alone has is passed over.
func TestFields(t *testing.T) {
	l := abc()
	d := fields(text("1"), text("2"), text("3"))
	for _, order := range [][]int{{}, {0}, {1}, {2}, {0, 1}, {1, 0}, {0, 2}, {2, 0}, {1, 2}, {2, 1}, {0, 1, 2}, {0, 2, 1}, {1, 0, 2}, {1, 2, 0}, {2, 0, 1}, {2, 1, 0}} {
		var r, back []string
		var want []api.Datum
		for _, i := range order {
			r, back = append(r, l[i]), append(back, strings.ReplaceAll(l[i], "string", "bytes"))
			want = append(want, d.List[i])
		}
		turnsEverywhere(t, record("R", l...), record("R", r...), d, fields(want...))
		for i := range want {
			want[i].Kind = api.AvroBytes
		}
		turnsEverywhere(t, record("x.R", l...), record("y.z.R", back...), d, fields(want...))
	}
	// What the writer alone has need not go into anything.
	turnsEverywhere(t, record("R", field("a", `"null"`), field("b", record("S", field("a", `"int"`))), field("c", fixed("F", 2))), record("R", field("c", fixed("F", 2))),
		fields(null(), fields(short(1)), fix("ab")), fields(fix("ab")))
	turnsEverywhere(t, record("R", field("a", `"int"`)), record("R"), fields(short(1)), fields())
	turnsEverywhere(t, record("R"), record("R"), fields(), fields())
	// Names are the same as a whole.
	for _, name := range []string{"A", "aa", "a_", "_a", "b"} {
		refusesEverywhere(t, record("R", field("a", `"int"`)), record("R", field(name, `"int"`)), fields(short(1)))
		turnsEverywhere(t, record("R", field("a", `"int"`)), record("R", fieldOr(name, `"int"`, "5")), fields(short(1)), fields(short(5)))
	}
	// One field that is refused refuses all.
	refusesEverywhere(t, record("R", l...), record("R", l[0], field("b", `"int"`), l[2]), d)
	refusesEverywhere(t, record("R", l...), record("R", field("a", `"int"`)), d)
	refusesEverywhere(t, record("R", l...), record("R", l[0], l[1], field("c", `"null"`)), d)
}

// TestRecordNames: P12.1: records have one last part, in whatever space; so do those within.
func TestRecordNames(t *testing.T) {
	d := fields(short(1))
	for _, w := range []string{"R", "a.R", "a.b.R"} {
		for _, r := range []string{"R", "a.R", "b.R", "a.b.c.R"} {
			turnsEverywhere(t, record(w, field("a", `"int"`)), record(r, field("a", `"int"`)), d, d)
		}
		for _, r := range []string{"S", "r", "RR", "a.S", "R.a", "a.R.S"} {
			refusesEverywhere(t, record(w, field("a", `"int"`)), record(r, field("a", `"int"`)), d)
			refusesEverywhere(t, record(w, field("a", `"int"`)), record(r), d)
			refusesEverywhere(t, record(w), record(r), fields())
		}
	}
	turns(t, made(record("a.R", field("a", record("S")))), made(record("b.R", field("a", record("S")))), fields(fields()), fields(fields()))
	refuses(t, made(record("a.R", field("a", record("S")))), made(record("a.R", field("a", record("T")))), fields(fields()))
}

// TestDefaults: P12.1: a field that the writer's record has not is told by its default; without one it is refused.
func TestDefaults(t *testing.T) {
	w := record("R", field("a", `"int"`))
	for _, x := range []struct {
		of, or string
		want   api.Datum
	}{
		{`"null"`, "null", null()},
		{`"boolean"`, "true", boolean(true)},
		{`"int"`, "-7", short(-7)},
		{`"long"`, "9223372036854775807", long(9223372036854775807)},
		{`"float"`, "0.1", float(0x3dcccccd)},
		{`"double"`, "0.1", double(0x3fb999999999999a)},
		{`"bytes"`, `"\u00ffa"`, binary("\xffa")},
		{`"string"`, `"\u00ffa"`, text("\u00ffa")},
		{record("S", field("a", `"int"`), field("b", `"null"`)), `{"b":null,"a":3}`, fields(short(3), null())},
		{enumOr("A", "E", "A", "B"), `"B"`, symbol(1)},
		{fixed("F", 2), `"\u00ffa"`, fix("\xffa")},
		{array(`"int"`), "[1,2]", list(short(1), short(2))},
		{dict(`"int"`), `{"y":1,"x":2}`, dicted("y", short(1), "x", short(2))},
		{union(`"int"`, `"null"`), "4", branch(0, short(4))},
	} {
		turnsEverywhere(t, w, record("R", field("a", `"int"`), fieldOr("b", x.of, x.or)), fields(short(1)), fields(short(1), x.want))
		turnsEverywhere(t, w, record("R", fieldOr("b", x.of, x.or), field("a", `"long"`)), fields(short(1)), fields(x.want, long(1)))
		turnsEverywhere(t, w, record("R", fieldOr("b", x.of, x.or)), fields(short(1)), fields(x.want))
		refusesEverywhere(t, w, record("R", field("a", `"int"`), field("b", x.of)), fields(short(1)))
		refusesEverywhere(t, w, record("R", field("b", x.of), fieldOr("a", `"int"`, "1")), fields(short(1)))
		refusesEverywhere(t, record("R"), record("R", field("b", x.of)), fields())
	}
	// A default does not count where the writer has the field: neither for its value, nor if that is refused.
	turnsEverywhere(t, w, record("R", fieldOr("a", `"int"`, "7")), fields(short(1)), fields(short(1)))
	refusesEverywhere(t, w, record("R", fieldOr("a", `"string"`, `"x"`)), fields(short(1)))
	refusesEverywhere(t, w, record("R", fieldOr("a", union(`"null"`, `"string"`), "null")), fields(short(1)))
	turnsEverywhere(t, w, record("R", fieldOr("a", union(`"null"`, `"int"`), "null")), fields(short(1)), fields(branch(1, short(1))))
	// The writer's defaults do not count.
	turnsEverywhere(t, record("R", fieldOr("a", `"int"`, "7"), fieldOr("b", `"int"`, "8")), record("R", fieldOr("c", `"int"`, "9"), field("b", `"int"`)), fields(short(1), short(2)), fields(short(9), short(2)))
	refusesEverywhere(t, record("R", fieldOr("a", `"int"`, "7")), record("R", field("b", `"int"`)), fields(short(1)))
	// A field of a record within a default has the default's member, not its own default.
	inner := record("S", fieldOr("x", `"int"`, "5"), fieldOr("y", `"int"`, "6"))
	turnsEverywhere(t, w, record("R", fieldOr("b", inner, `{"y":1,"x":2}`)), fields(short(1)), fields(fields(short(2), short(1))))
}

// TestFieldsWithin: P12.1: fields within fields, lists and maps are turned, those with a default at each place.
func TestFieldsWithin(t *testing.T) {
	w := record("R", field("a", record("S", field("x", `"int"`), field("y", `"string"`))), field("b", array(`"S"`)), field("c", dict(array(`"S"`))))
	r := record("q.R", field("c", dict(array(record("p.S", field("y", `"bytes"`), fieldOr("z", array(`"int"`), "[1]"), field("x", `"double"`))))), fieldOr("d", `"null"`, "null"), field("b", array("\"p.S\"")), field("a", "\"p.S\""))
	one := func(n int64, s string) (api.Datum, api.Datum) {
		return fields(short(n), text(s)), fields(binary(s), list(short(1)), double(bits64(float64(n))))
	}
	a, turnedA := one(1, "a")
	b, turnedB := one(2, "b")
	c, turnedC := one(3, "")
	turnsEverywhere(t, w, r, fields(a, list(b, c), dicted("k", list(c, a), "", list(), "l", list(b))), fields(dicted("k", list(turnedC, turnedA), "", list(), "l", list(turnedB)), null(), list(turnedB, turnedC), turnedA))
	// A record that holds itself.
	w = record("R", field("v", `"int"`), field("next", union(`"null"`, `"R"`)))
	r = record("R", field("next", union(`"R"`, `"null"`)), fieldOr("w", `"string"`, `"x"`), field("v", `"long"`))
	d, want := fields(short(0), branch(0, null())), fields(branch(1, null()), text("x"), long(0))
	for i := range int64(10) {
		turnsEverywhere(t, w, r, d, want)
		d, want = fields(short(i), branch(1, d)), fields(branch(0, want), text("x"), long(i))
	}
}

// TestLists: P12.1: lists and maps of none, one and several values, turned one by one; they do not go into one another.
func TestLists(t *testing.T) {
	turnsEverywhere(t, array(`"int"`), array(`"long"`), list(), list())
	turnsEverywhere(t, array(`"int"`), array(`"long"`), list(short(1)), list(long(1)))
	turnsEverywhere(t, array(`"int"`), array(`"long"`), list(short(1), short(2), short(1)), list(long(1), long(2), long(1)))
	turnsEverywhere(t, dict(`"int"`), dict(`"long"`), dicted(), dicted())
	turnsEverywhere(t, dict(`"int"`), dict(`"long"`), dicted("b", short(1), "a", short(2), "\u00e9", short(1)), dicted("b", long(1), "a", long(2), "\u00e9", long(1)))
	turnsEverywhere(t, array(array(dict(`"bytes"`))), array(array(dict(`"string"`))), list(list(), list(dicted("a", binary("b")), dicted())), list(list(), list(dicted("a", text("b")), dicted())))
	// What there is none of is not refused.
	turnsEverywhere(t, array(`"string"`), array(`"int"`), list(), list())
	turnsEverywhere(t, dict(record("R")), dict(`"int"`), dicted(), dicted())
	refusesEverywhere(t, array(`"string"`), array(`"int"`), list(text("1")))
	refusesEverywhere(t, dict(`"string"`), dict(`"int"`), dicted("a", text("1")))
	refusesEverywhere(t, array(union(`"int"`, `"null"`)), array(`"int"`), list(branch(0, short(1)), branch(0, short(2)), branch(1, null())))
	refusesEverywhere(t, array(`"int"`), dict(`"int"`), list())
	refusesEverywhere(t, dict(`"int"`), array(`"int"`), dicted())
}
