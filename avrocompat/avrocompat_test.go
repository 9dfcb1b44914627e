package avrocompat_test

import (
	"fmt"
	"slices"
	"strconv"
	"strings"
	"testing"

	"lexicon/api"
	"lexicon/avro"
	"lexicon/avrocodec"
	"lexicon/avrocompat"
	"lexicon/avroresolve"
)

// made is the schema that a text tells.
func made(text string) api.Avro {
	s, e := avro.Make([]byte(text))
	if e != api.OK {
		panic(fmt.Sprintf("the tests' schema %.300s: %d", text, e))
	}
	return s
}

// record and those below are the pieces of which the tests' schemas are made.
func record(name string, fields ...string) string {
	return `{"type":"record","name":"` + name + `","fields":[` + strings.Join(fields, ",") + `]}`
}

func field(name, of string) string { return `{"name":"` + name + `","type":` + of + `}` }

func fieldOr(name, of, or string) string {
	return `{"name":"` + name + `","type":` + of + `,"default":` + or + `}`
}

func enum(name string, symbols ...string) string {
	return `{"type":"enum","name":"` + name + `","symbols":["` + strings.Join(symbols, `","`) + `"]}`
}

func enumOr(or, name string, symbols ...string) string {
	return `{"default":"` + or + `",` + enum(name, symbols...)[1:]
}

func fixed(name string, size int) string {
	return `{"type":"fixed","name":"` + name + `","size":` + strconv.Itoa(size) + `}`
}

func array(of string) string { return `{"type":"array","items":` + of + `}` }

func dict(of string) string { return `{"type":"map","values":` + of + `}` }

func union(of ...string) string { return "[" + strings.Join(of, ",") + "]" }

// null and those below are values.
func null() api.Datum { return api.Datum{} }

func short(n int64) api.Datum { return api.Datum{Kind: api.AvroInt, Int: n} }

func fields(l ...api.Datum) api.Datum { return api.Datum{Kind: api.AvroRecord, List: l} }

func list(l ...api.Datum) api.Datum { return api.Datum{Kind: api.AvroList, List: l} }

func branch(at int64, d api.Datum) api.Datum {
	return api.Datum{Kind: api.AvroUnion, Int: at, List: []api.Datum{d}}
}

// path is a path of pairs of numbers, the writer's ahead.
func path(numbers ...int) []api.AvroStep {
	var l []api.AvroStep
	for i := 0; i < len(numbers); i += 2 {
		l = append(l, api.AvroStep{Writer: numbers[i], Reader: numbers[i+1]})
	}
	return l
}

// show tells a value, a schema, a path in a few letters.
func show(x any) string {
	if d, ok := x.(api.Datum); ok && total(d) > 1000 {
		return fmt.Sprintf("a value of %d values", total(d))
	}
	s := fmt.Sprint(x)
	return s[:min(len(s), 300)]
}

// reads complains if the reader does not read the writer.
func reads(t *testing.T, w, r api.Avro) {
	t.Helper()
	if ok, e := avrocompat.Reads(r, w); !ok || e != api.OK {
		t.Errorf("P13.1: Reads: %s, of %s: %t, %d", show(r), show(w), ok, e)
	}
	if l, e := avrocompat.Path(r, w); len(l) > 0 || e != api.ErrNone {
		t.Errorf("P13.2: Path: %s, of %s: %s, %d", show(r), show(w), show(l), e)
	}
	if d, e := avrocompat.Witness(r, w); !same(d, api.Datum{}) || e != api.ErrNone {
		t.Errorf("P13.2: Witness: %s, of %s: %s, %d", show(r), show(w), show(d), e)
	}
	both(t, w, r, true)
}

// both complains if Both is not what Reads is, each way.
func both(t *testing.T, w, r api.Avro, ok bool) {
	t.Helper()
	back, _ := avrocompat.Reads(w, r)
	if f, b, e := avrocompat.Both(w, r); f != ok || b != back || e != api.OK {
		t.Errorf("P13.1: Both: %s, %s: %t, %t, %d", show(w), show(r), f, b, e)
	}
	if f, b, e := avrocompat.Both(r, w); f != back || b != ok || e != api.OK {
		t.Errorf("P13.1: Both: %s, %s: %t, %t, %d", show(r), show(w), f, b, e)
	}
}

// refused complains if the reader reads the writer, or what is told of that is not as the chapter's words ask; it tells the path.
func refused(t *testing.T, w, r api.Avro) []api.AvroStep {
	t.Helper()
	if ok, e := avrocompat.Reads(r, w); ok || e != api.OK {
		t.Errorf("P13.1: Reads: %s, of %s: %t, %d", show(r), show(w), ok, e)
	}
	both(t, w, r, false)
	l, e := avrocompat.Path(r, w)
	m := modelOf(w, r)
	if why := m.wrong(l); why != "" || e != api.OK {
		t.Errorf("P13.2: Path: %s, of %s: %s, %d: %s", show(r), show(w), show(l), e, why)
	}
	d, e := avrocompat.Witness(r, w)
	if e == api.ErrLong && same(d, api.Datum{}) {
		return l
	}
	witnesses(t, w, r, d, e)
	if way, is := m.trace(m.roots(), d); !is || !slices.Equal(way, l) {
		t.Errorf("P13.2: Witness: %s, of %s: %s goes through %s, not %s", show(r), show(w), show(d), show(way), show(l))
	}
	return l
}

// witnesses complains if a value is no witness.
func witnesses(t *testing.T, w, r api.Avro, d api.Datum, e api.Errno) {
	t.Helper()
	if e != api.OK || avrocodec.Check(w, w.Root, d) != api.OK {
		t.Errorf("P13.3: Witness: %s, of %s: %s, %d", show(r), show(w), show(d), e)
	}
	if _, e := avroresolve.Turn(w, r, d); e != api.ErrResolve {
		t.Errorf("P13.3: Witness: %s, of %s: %s is turned: %d", show(r), show(w), show(d), e)
	}
}

// refusedBy complains if the reader reads the writer, or if Path and Witness are not these.
func refusedBy(t *testing.T, w, r api.Avro, want []api.AvroStep, witness api.Datum) {
	t.Helper()
	l := refused(t, w, r)
	if !slices.Equal(l, want) {
		t.Errorf("P13.2: Path: %s, of %s: %s, not %s", show(r), show(w), show(l), show(want))
	}
	if d, e := avrocompat.Witness(r, w); e != api.OK || !same(d, witness) {
		t.Errorf("P13.2: Witness: %s, of %s: %s, %d, not %s", show(r), show(w), show(d), e, show(witness))
	}
}

// around are ways in which a writer's schema and a reader's stand in others, so that the whole is read if they are.
func around(w, r string) [][2]string {
	z := fixed("Z", 7)
	l := [][2]string{
		{w, r},
		{array(w), array(r)},
		{dict(w), dict(r)},
		{record("a.Z", field("a", `"int"`), field("b", w), field("c", `"null"`)), record("Z", field("c", `"null"`), fieldOr("x", `"int"`, "5"), field("b", r))},
		{record("Z", field("b", array(dict(w)))), record("b.Z", field("b", array(dict(r))))},
	}
	if !isUnion(w) {
		l = append(l, [2]string{union(w), r})
	}
	if !isUnion(r) {
		l = append(l, [2]string{w, union(z, r)}, [2]string{w, union(r, z)})
	}
	if !isUnion(w) && !isUnion(r) {
		l = append(l, [2]string{union(z, w), union(r, z)}, [2]string{array(union(w, z)), array(union(z, r))})
	}
	return l
}

// isUnion tells whether a schema's text is a union's.
func isUnion(of string) bool { return strings.HasPrefix(of, "[") }

// readsEverywhere complains if the reader does not read the writer, as they are, or within others.
func readsEverywhere(t *testing.T, w, r string) {
	t.Helper()
	for _, x := range around(w, r) {
		reads(t, made(x[0]), made(x[1]))
		if !modelOf(made(x[0]), made(x[1])).reads() {
			t.Errorf("the tests' model: %s, of %s", x[1], x[0])
		}
	}
}

// refusedEverywhere complains if the reader reads the writer, as they are, or within others.
func refusedEverywhere(t *testing.T, w, r string) {
	t.Helper()
	for _, x := range around(w, r) {
		refused(t, made(x[0]), made(x[1]))
		if modelOf(made(x[0]), made(x[1])).reads() {
			t.Errorf("the tests' model: %s, of %s", x[1], x[0])
		}
	}
}

// TestExamples: P13.1, P13.2: the chapter's examples.
func TestExamples(t *testing.T) {
	readsEverywhere(t, `"int"`, `"long"`)
	refusedEverywhere(t, `"long"`, `"int"`)
	refusedBy(t, made(union(`"null"`, `"int"`)), made(`"int"`), path(0, 0, 1, 0), branch(0, null()))
	a, b := field("a", `"int"`), field("b", `"int"`)
	refusedEverywhere(t, record("N", a), record("N", a, b))
	refusedBy(t, made(record("N", a)), made(record("N", a, b)), path(0, 0), fields(short(0)))
	refusedBy(t, made(array(`"string"`)), made(array(`"int"`)), path(0, 0, 1, 1), list(api.Datum{Kind: api.AvroText}))
	readsEverywhere(t, array(record("R", field("r", `"R"`))), array(`"int"`))
	reads(t, made(record("R", field("r", `"R"`))), made(`"int"`))
	if f, b, e := avrocompat.Both(made(`"int"`), made(`"long"`)); !f || b || e != api.OK {
		t.Errorf("P13.1: Both: %t, %t, %d", f, b, e)
	}
	if f, b, e := avrocompat.Both(made(`"long"`), made(`"int"`)); f || !b || e != api.OK {
		t.Errorf("P13.1: Both: %t, %t, %d", f, b, e)
	}
}

// kinds are schemas of each kind, by kinds.
func kinds() []string {
	return []string{
		`"null"`, `"boolean"`, `"int"`, `"long"`, `"float"`, `"double"`, `"bytes"`, `"string"`,
		record("N"), enum("N", "A", "B"), fixed("N", 1), array(`"null"`), dict(`"null"`),
	}
}

// TestKinds: P13.1: each pair of kinds in both directions: each reads itself, and what goes into it; all else is refused, as bytes into string are.
func TestKinds(t *testing.T) {
	into := map[[2]int]bool{{2, 3}: true, {2, 4}: true, {2, 5}: true, {3, 4}: true, {3, 5}: true, {4, 5}: true, {7, 6}: true}
	for from, w := range kinds() {
		for to, r := range kinds() {
			if from == to || into[[2]int{from, to}] {
				readsEverywhere(t, w, r)
			} else {
				refusedEverywhere(t, w, r)
			}
		}
	}
}

// TestBytes: P13.1, P13.2: bytes that are no UTF-8 are the witness, wherever bytes are to be a string.
func TestBytes(t *testing.T) {
	for _, x := range around(`"bytes"`, `"string"`) {
		w, r := made(x[0]), made(x[1])
		refused(t, w, r)
		d, e := avrocompat.Witness(r, w)
		for len(d.List) > 0 {
			d = d.List[min(1, len(d.List)-1)]
		}
		if e != api.OK || d.Kind != api.AvroBytes || len(d.Bytes) == 0 {
			t.Errorf("P13.2: Witness: %s, of %s: %s, %d", x[1], x[0], show(d), e)
		}
	}
	refusedEverywhere(t, `"bytes"`, union(`"null"`, `"string"`))
	readsEverywhere(t, `"bytes"`, union(`"string"`, `"bytes"`))
	readsEverywhere(t, union(`"string"`, `"bytes"`), `"bytes"`)
	refusedEverywhere(t, union(`"string"`, `"bytes"`), `"string"`)
}

// TestFixed: P13.1: fixed ones of one Size and of another, of one last part in two spaces.
func TestFixed(t *testing.T) {
	readsEverywhere(t, fixed("F", 3), fixed("F", 3))
	readsEverywhere(t, fixed("a.F", 3), fixed("b.c.F", 3))
	readsEverywhere(t, fixed("F", 0), fixed("a.F", 0))
	readsEverywhere(t, fixed("F", 1<<16), fixed("F", 1<<16))
	refusedEverywhere(t, fixed("F", 3), fixed("F", 2))
	refusedEverywhere(t, fixed("F", 2), fixed("F", 3))
	refusedEverywhere(t, fixed("F", 0), fixed("F", 1))
	refusedEverywhere(t, fixed("a.F", 3), fixed("a.G", 3))
	refusedEverywhere(t, fixed("F.G", 3), fixed("F.F", 3))
	refusedEverywhere(t, fixed("F", 3), fixed("f", 3))
	refusedEverywhere(t, fixed("F", 3), fixed("aF", 3))
	refusedBy(t, made(fixed("F", 3)), made(fixed("F", 2)), path(0, 0), api.Datum{Kind: api.AvroFixed, Bytes: make([]byte, 3)})
}

// TestEnums: P13.1, P13.2: enums with a symbol that the reader lacks, with and without a default; the witness is that symbol.
func TestEnums(t *testing.T) {
	w := enum("E", "A", "B", "C")
	readsEverywhere(t, w, w)
	readsEverywhere(t, enum("a.E", "A", "B", "C"), enum("b.E", "C", "X", "B", "A"))
	readsEverywhere(t, w, enumOr("X", "E", "X"))
	readsEverywhere(t, w, enumOr("B", "E", "A", "B"))
	readsEverywhere(t, enumOr("A", "E", "A"), enum("E", "A"))
	refusedEverywhere(t, w, enum("E", "A", "B"))
	refusedEverywhere(t, w, enum("E", "X", "C", "A"))
	refusedEverywhere(t, w, enum("F", "A", "B", "C"))
	refusedEverywhere(t, w, enumOr("A", "F", "A", "B", "C"))
	refusedEverywhere(t, w, enumOr("X", "F", "X"))
	refusedEverywhere(t, enumOr("A", "E", "A", "B"), enum("E", "A"))
	for lack, l := range [][]string{{"B", "C", "X"}, {"C", "A"}, {"B", "A"}} {
		refusedBy(t, made(w), made(enum("E", l...)), path(0, 0), api.Datum{Kind: api.AvroEnum, Int: int64(lack)})
	}
	refusedBy(t, made(w), made(enum("E", "X")), path(0, 0), api.Datum{Kind: api.AvroEnum})
	refusedBy(t, made(w), made(`"int"`), path(0, 0), api.Datum{Kind: api.AvroEnum})
	refusedBy(t, made(w), made(enum("F", "A", "B")), path(0, 0), api.Datum{Kind: api.AvroEnum, Int: 2})
	refusedBy(t, made(w), made(enum("F", "A", "B", "C")), path(0, 0), api.Datum{Kind: api.AvroEnum})
	refusedBy(t, made(w), made(union(`"null"`, fixed("E", 1))), path(0, 0), api.Datum{Kind: api.AvroEnum})
	refusedBy(t, made(w), made(union(`"null"`, enum("E", "A", "C"))), path(0, 0, 0, 2), api.Datum{Kind: api.AvroEnum, Int: 1})
}

// TestRecords: P13.1: records whose fields stand in another order, that lack a field with and without a default, that have more.
func TestRecords(t *testing.T) {
	a, b, c := field("a", `"int"`), field("b", `"string"`), field("c", `"null"`)
	w := record("R", a, b)
	readsEverywhere(t, w, w)
	readsEverywhere(t, w, record("R", b, a))
	readsEverywhere(t, w, record("x.R", b))
	readsEverywhere(t, w, record("R"))
	readsEverywhere(t, record("R"), record("R"))
	readsEverywhere(t, w, record("R", field("b", `"bytes"`), field("a", `"double"`)))
	readsEverywhere(t, w, record("R", a, fieldOr("c", `"null"`, "null"), b))
	readsEverywhere(t, w, record("R", fieldOr("c", record("S", a), `{"a":1}`), fieldOr("d", array(`"int"`), "[1]")))
	readsEverywhere(t, record("R"), record("R", fieldOr("c", `"int"`, "1")))
	refusedEverywhere(t, w, record("R", a, b, c))
	refusedEverywhere(t, w, record("R", c))
	refusedEverywhere(t, record("R"), record("R", c))
	refusedEverywhere(t, w, record("S", a, b))
	refusedEverywhere(t, w, record("S"))
	refusedEverywhere(t, w, record("R", a, field("b", `"int"`)))
	refusedEverywhere(t, w, record("R", field("A", `"int"`)))
	// The writer's field is there: the reader's default does not stand in for what is refused.
	refusedEverywhere(t, w, record("R", a, fieldOr("b", `"int"`, "1")))
	refusedEverywhere(t, record("R", field("a", array(`"string"`))), record("R", fieldOr("a", array(`"int"`), "[]")))
	// The writer's fields have no defaults that count.
	refusedEverywhere(t, record("R", fieldOr("c", `"null"`, "null")), record("R", a))
	refusedEverywhere(t, record("R", fieldOr("a", `"string"`, `""`)), record("R", a))
	// Two fields each, in either order.
	refusedBy(t, made(w), made(record("R", b, field("a", `"boolean"`))), path(0, 0, 1, 2), fields(short(0), api.Datum{Kind: api.AvroText}))
	refusedBy(t, made(w), made(record("R", field("b", `"boolean"`), a)), path(0, 0, 2, 1), fields(short(0), api.Datum{Kind: api.AvroText}))
}

// TestWritersUnions: P13.1: each branch of a writer's union is read, or the union is refused.
func TestWritersUnions(t *testing.T) {
	readsEverywhere(t, union(`"int"`), `"int"`)
	readsEverywhere(t, union(`"int"`, `"float"`, `"long"`), `"double"`)
	readsEverywhere(t, union(`"string"`, `"bytes"`), `"bytes"`)
	readsEverywhere(t, union(array(`"int"`)), array(`"long"`))
	readsEverywhere(t, union(record("a.R"), record("b.R")), record("R"))
	refusedEverywhere(t, union(`"int"`, `"double"`, `"long"`), `"float"`)
	refusedEverywhere(t, union(record("a.R"), record("b.S")), record("R"))
	for _, kind := range kinds() {
		other := array(`"boolean"`)
		if kind == array(`"null"`) {
			other = dict(`"boolean"`)
		}
		refusedEverywhere(t, union(kind), other)
		refusedEverywhere(t, union(kind, other), other)
		refusedEverywhere(t, union(other, kind), other)
		readsEverywhere(t, union(other, kind), union(kind, other))
	}
	// Each place of the branch that is refused.
	for at, w := range []string{union(`"string"`, `"int"`, `"float"`), union(`"int"`, `"string"`, `"float"`), union(`"int"`, `"float"`, `"string"`)} {
		refusedBy(t, made(w), made(`"double"`), path(0, 0, at+1, 0), branch(int64(at), api.Datum{Kind: api.AvroText}))
	}
}

// TestReadersUnions: P13.1: a reader's union whose branch has the Kind and the Name, the Kind and the last part, into which w goes; none.
func TestReadersUnions(t *testing.T) {
	a, b := field("a", `"int"`), field("b", `"string"`)
	readsEverywhere(t, `"int"`, union(`"null"`, `"int"`))
	readsEverywhere(t, `"int"`, union(`"null"`, `"double"`, `"string"`))
	readsEverywhere(t, `"int"`, union(`"float"`, `"int"`))
	readsEverywhere(t, `"string"`, union(`"null"`, `"bytes"`))
	readsEverywhere(t, array(`"int"`), union(dict(`"int"`), array(`"int"`)))
	refusedEverywhere(t, `"int"`, union(`"null"`, `"string"`))
	refusedEverywhere(t, `"double"`, union(`"float"`, `"long"`, `"int"`))
	refusedEverywhere(t, array(`"int"`), union(dict(`"int"`), `"int"`))
	// The branch is one by its Kind; what it is of is not asked, and no other branch is tried.
	refusedEverywhere(t, array(`"int"`), union(array(`"string"`), dict(`"int"`)))
	// The Kind and the Name, ahead of the last part.
	readsEverywhere(t, record("b.R", a), union(record("a.R", b), record("b.R", a), record("c.R", b)))
	refusedEverywhere(t, record("b.R", a), union(record("a.R", a), record("b.R", b), record("c.R", a)))
	readsEverywhere(t, record("b.R", a), union(record("a.R", a), record("c.R", b)))
	refusedEverywhere(t, record("b.R", a), union(record("a.R", b), record("c.R", a)))
	refusedEverywhere(t, record("b.R", a), union(record("a.S", a), enum("b.R", "A"), fixed("c.R", 1)))
	readsEverywhere(t, enum("b.E", "A"), union(enum("a.E", "B"), enum("b.E", "A")))
	refusedEverywhere(t, enum("b.E", "A"), union(enum("a.E", "A"), enum("b.E", "B")))
	readsEverywhere(t, fixed("b.F", 2), union(fixed("a.F", 3), fixed("b.F", 2)))
	refusedEverywhere(t, fixed("b.F", 2), union(fixed("a.F", 3), fixed("c.F", 2)))
	readsEverywhere(t, fixed("b.F", 2), union(fixed("a.G", 3), record("b.F"), fixed("c.F", 2)))
	// Its own Kind, ahead of one into which it goes; the first of those.
	readsEverywhere(t, `"bytes"`, union(`"string"`, `"bytes"`))
	refusedBy(t, made(`"bytes"`), made(union(`"null"`, `"string"`)), path(0, 0, 0, 2), api.Datum{Kind: api.AvroBytes, Bytes: []byte{0xff}})
	refusedBy(t, made(`"int"`), made(union(`"null"`, `"string"`)), path(0, 0), short(0))
	refusedBy(t, made(record("b.R", a)), made(union(record("a.R", a), record("b.R", b))), path(0, 0, 0, 3), fields(short(0)))
}

// TestBothUnions: P13.1, P13.2: unions on both sides.
func TestBothUnions(t *testing.T) {
	readsEverywhere(t, union(`"null"`, `"int"`), union(`"int"`, `"null"`))
	readsEverywhere(t, union(`"null"`, `"int"`), union(`"double"`, `"null"`, `"string"`))
	readsEverywhere(t, union(`"int"`, `"long"`), union(`"float"`))
	readsEverywhere(t, union(record("a.R"), record("b.R", field("a", `"int"`))), union(record("c.R"), record("b.R", field("a", `"int"`))))
	refusedEverywhere(t, union(record("a.R"), record("b.R", field("a", `"int"`))), union(record("b.R", field("a", `"int"`)), record("c.R")))
	refusedEverywhere(t, union(record("a.R"), record("b.R", field("a", `"int"`))), union(record("c.R", field("a", `"int"`)), record("b.R", field("a", `"int"`))))
	refusedEverywhere(t, union(`"null"`, `"int"`, `"string"`), union(`"int"`, `"null"`))
	refusedEverywhere(t, union(`"null"`, array(`"int"`)), union(array(`"string"`), `"null"`))
	refusedBy(t, made(union(`"null"`, array(`"int"`))), made(union(array(`"string"`), `"null"`)), path(0, 0, 2, 0, 2, 1, 3, 2), branch(1, list(short(0))))
	refusedBy(t, made(union(`"null"`, `"int"`, `"string"`)), made(union(`"int"`, `"null"`)), path(0, 0, 3, 0), branch(2, api.Datum{Kind: api.AvroText}))
}

// TestListsAndMaps: P13.1, P13.2: what lists and maps are of.
func TestListsAndMaps(t *testing.T) {
	readsEverywhere(t, array(array(`"int"`)), array(array(`"long"`)))
	readsEverywhere(t, dict(array(`"string"`)), dict(array(`"bytes"`)))
	refusedEverywhere(t, array(array(`"long"`)), array(array(`"int"`)))
	refusedEverywhere(t, dict(dict(`"int"`)), dict(dict(`"null"`)))
	refusedEverywhere(t, dict(array(`"int"`)), dict(dict(`"int"`)))
	d, e := avrocompat.Witness(made(dict(array(`"int"`))), made(dict(array(`"null"`))))
	if e != api.OK || d.Kind != api.AvroMap || len(d.Keys) != 1 || len(d.List) != 1 || !same(d.List[0], list(null())) {
		t.Errorf("P13.2: Witness: %s, %d", show(d), e)
	}
}
