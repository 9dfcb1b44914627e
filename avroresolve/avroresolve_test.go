package avroresolve_test

import (
	"fmt"
	"math"
	"strconv"
	"strings"
	"testing"

	"lexicon/api"
	"lexicon/avro"
	"lexicon/avrocodec"
	"lexicon/avroresolve"
	"lexicon/jsontext"
)

// made is the schema that a text tells.
func made(text string) api.Avro {
	s, e := avro.Make([]byte(text))
	if e != api.OK {
		panic(fmt.Sprintf("the tests' schema %.300s: %d", text, e))
	}
	return s
}

// value is the value that a JSON text tells.
func value(text string) api.JSON {
	v, e := jsontext.Parse([]byte(text))
	if e != api.OK {
		panic(fmt.Sprintf("the tests' value %.300s: %d", text, e))
	}
	return v
}

// record and those below are the pieces of which the tests' schemas are made.
func record(name string, fields ...string) string {
	return `{"type":"record","name":"` + name + `","fields":[` + strings.Join(fields, ",") + `]}`
}

func field(name, of string) string { return `{"name":"` + name + `","type":` + of + `}` }

func fieldOr(name, of, or string) string {
	return `{"name":"` + name + `","type":` + of + `,"default":` + or + `}`
}

func enum(name string, symbols ...string) string {
	return `{"type":"enum","name":"` + name + `","symbols":["` + strings.Join(symbols, `","`) + `"]}`
}

func enumOr(or, name string, symbols ...string) string {
	return `{"default":"` + or + `",` + enum(name, symbols...)[1:]
}

func fixed(name string, size int) string {
	return `{"type":"fixed","name":"` + name + `","size":` + strconv.Itoa(size) + `}`
}

func array(of string) string { return `{"type":"array","items":` + of + `}` }

func dict(of string) string { return `{"type":"map","values":` + of + `}` }

func union(of ...string) string { return "[" + strings.Join(of, ",") + "]" }

// null and those below are values.
func null() api.Datum { return api.Datum{} }

func boolean(b bool) api.Datum { return api.Datum{Kind: api.AvroBool, Bool: b} }

func short(n int64) api.Datum { return api.Datum{Kind: api.AvroInt, Int: n} }

func long(n int64) api.Datum { return api.Datum{Kind: api.AvroLong, Int: n} }

func float(bits uint64) api.Datum { return api.Datum{Kind: api.AvroFloat, Bits: bits} }

func double(bits uint64) api.Datum { return api.Datum{Kind: api.AvroDouble, Bits: bits} }

func binary(s string) api.Datum { return api.Datum{Kind: api.AvroBytes, Bytes: []byte(s)} }

func text(s string) api.Datum { return api.Datum{Kind: api.AvroText, Bytes: []byte(s)} }

func fields(l ...api.Datum) api.Datum { return api.Datum{Kind: api.AvroRecord, List: l} }

func symbol(at int64) api.Datum { return api.Datum{Kind: api.AvroEnum, Int: at} }

func fix(s string) api.Datum { return api.Datum{Kind: api.AvroFixed, Bytes: []byte(s)} }

func list(l ...api.Datum) api.Datum { return api.Datum{Kind: api.AvroList, List: l} }

func branch(at int64, d api.Datum) api.Datum {
	return api.Datum{Kind: api.AvroUnion, Int: at, List: []api.Datum{d}}
}

// dicted is a map of keys and values, in turn.
func dicted(l ...any) api.Datum {
	d := api.Datum{Kind: api.AvroMap}
	for i := 0; i < len(l); i += 2 {
		d.Keys, d.List = append(d.Keys, l[i].(string)), append(d.List, l[i+1].(api.Datum))
	}
	return d
}

// single and double's bits of a number.
func bits32(f float32) uint64 { return uint64(math.Float32bits(f)) }

func bits64(f float64) uint64 { return math.Float64bits(f) }

// show tells a value, a schema in a few letters.
func show(x any) string {
	if d, ok := x.(api.Datum); ok && total(d) > 1000 {
		return fmt.Sprintf("a value of %d values", total(d))
	}
	s := fmt.Sprint(x)
	return s[:min(len(s), 300)]
}

// turns complains if a value of the writer's root is not turned into that value of the reader's, by Turn, and, told as bytes, by Read.
func turns(t *testing.T, w, r api.Avro, d, want api.Datum) {
	t.Helper()
	if got, e := avroresolve.Turn(w, r, d); e != api.OK || !same(got, want) {
		t.Errorf("P12.1: Turn of %s, by %s, %s: %s, %d; not %s", show(d), show(w), show(r), show(got), e, show(want))
	}
	if got, e := avroresolve.Read(w, r, encoded(t, w, d)); e != api.OK || !same(got, want) {
		t.Errorf("P12.1: Read of %s, by %s, %s: %s, %d; not %s", show(d), show(w), show(r), show(got), e, show(want))
	}
	if e := avrocodec.Check(r, 0, want); e != api.OK {
		t.Errorf("P12.3: %s does not fit %s: %d", show(want), show(r), e)
	}
	if got, ok := turnedBy(w, r, d); !ok || !same(got, want) {
		t.Errorf("the tests' model: %s, %s, %s: %s; not %s", show(d), show(w), show(r), show(got), show(want))
	}
}

// refuses complains if a value of the writer's root is turned into one of the reader's.
func refuses(t *testing.T, w, r api.Avro, d api.Datum) {
	t.Helper()
	if got, e := avroresolve.Turn(w, r, d); e != api.ErrResolve || !same(got, api.Datum{}) {
		t.Errorf("P12.1: Turn of %s, by %s, %s: %s, %d", show(d), show(w), show(r), show(got), e)
	}
	if got, e := avroresolve.Read(w, r, encoded(t, w, d)); e != api.ErrResolve || !same(got, api.Datum{}) {
		t.Errorf("P12.1: Read of %s, by %s, %s: %s, %d", show(d), show(w), show(r), show(got), e)
	}
	if got, ok := turnedBy(w, r, d); ok {
		t.Errorf("the tests' model: %s, %s, %s: %s", show(d), show(w), show(r), show(got))
	}
}

// encoded are a value's bytes.
func encoded(t *testing.T, s api.Avro, d api.Datum) []byte {
	t.Helper()
	b, e := avrocodec.Encode(s, d)
	if e != api.OK {
		t.Fatalf("the tests' value: %s, %s: %d", show(d), show(s), e)
	}
	return b
}

// place is a way in which a writer's schema and a reader's stand in others, and what is around their values there.
type place struct {
	w, r    string
	d, want func(api.Datum) api.Datum
}

// around are ways in which a writer's schema and a reader's may stand.
func around(w, r string) []place {
	z := fixed("Z", 7)
	as := func(d api.Datum) api.Datum { return d }
	second := func(d api.Datum) api.Datum { return branch(1, d) }
	twice := func(d api.Datum) api.Datum { return list(d, d) }
	keyed := func(d api.Datum) api.Datum { return dicted("k", d, "", d) }
	l := []place{
		{w, r, as, as},
		{array(w), array(r), twice, twice},
		{dict(w), dict(r), keyed, keyed},
		{
			record("a.Z", field("a", `"int"`), field("b", w), field("c", `"null"`)),
			record("Z", field("c", `"null"`), fieldOr("x", `"int"`, "5"), field("b", r)),
			func(d api.Datum) api.Datum { return fields(short(1), d, null()) },
			func(d api.Datum) api.Datum { return fields(null(), short(5), d) },
		},
	}
	if !isUnion(w) {
		l = append(l, place{union(z, w), r, second, as})
	}
	if !isUnion(r) {
		l = append(l, place{w, union(z, r), as, second})
	}
	if !isUnion(w) && !isUnion(r) {
		l = append(l, place{union(z, w), union(r, z), second, func(d api.Datum) api.Datum { return branch(0, d) }})
	}
	return l
}

// isUnion tells whether a schema's text is a union's.
func isUnion(of string) bool { return strings.HasPrefix(of, "[") }

// turnsEverywhere complains if a value is not turned, as it is, or within others.
func turnsEverywhere(t *testing.T, w, r string, d, want api.Datum) {
	t.Helper()
	for _, x := range around(w, r) {
		turns(t, made(x.w), made(x.r), x.d(d), x.want(want))
	}
}

// refusesEverywhere complains if a value is turned, as it is, or within others.
func refusesEverywhere(t *testing.T, w, r string, d api.Datum) {
	t.Helper()
	for _, x := range around(w, r) {
		refuses(t, made(x.w), made(x.r), x.d(d))
	}
}

// TestExamples: P12.1: the chapter's examples.
func TestExamples(t *testing.T) {
	turnsEverywhere(t, `"int"`, `"double"`, short(3), double(bits64(3)))
	turnsEverywhere(t, `"int"`, union(`"null"`, `"long"`, `"int"`), short(3), branch(2, short(3)))
	turnsEverywhere(t, `"int"`, union(`"null"`, `"long"`), short(3), branch(1, long(3)))
	turnsEverywhere(t, record("a.R", field("a", `"int"`), field("b", `"int"`)), record("b.c.R", field("b", `"int"`), fieldOr("c", `"int"`, "7")), fields(short(1), short(2)), fields(short(2), short(7)))
	refusesEverywhere(t, enum("E", "A", "B"), enum("E", "A"), symbol(1))
	turnsEverywhere(t, enum("E", "A", "B"), enum("E", "A"), symbol(0), symbol(0))
}

// kinds are schemas of each kind, by kinds, with names of their own, and a value of each.
func kinds() []struct {
	of string
	d  api.Datum
} {
	return []struct {
		of string
		d  api.Datum
	}{
		{`"null"`, null()},
		{`"boolean"`, boolean(true)},
		{`"int"`, short(65)},
		{`"long"`, long(65)},
		{`"float"`, float(0x41424344)},
		{`"double"`, double(0x4142434445464748)},
		{`"bytes"`, binary("A")},
		{`"string"`, text("A")},
		{record("N"), fields()},
		{enum("N", "A", "B"), symbol(1)},
		{fixed("N", 1), fix("A")},
		{array(`"null"`), list(null())},
		{dict(`"null"`), dicted("A", null())},
	}
}

// TestPairs: P12.1: each pair of kinds: what goes into what, and that all else is refused.
func TestPairs(t *testing.T) {
	into := map[[2]api.AvroKind]api.Datum{
		{2, 3}: long(65), {2, 4}: float(bits32(65)), {2, 5}: double(bits64(65)),
		{3, 4}: float(bits32(65)), {3, 5}: double(bits64(65)),
		{4, 5}: double(bits64(float64(math.Float32frombits(0x41424344)))),
		{6, 7}: text("A"), {7, 6}: binary("A"),
	}
	for from, w := range kinds() {
		for to, r := range kinds() {
			want, goes := into[[2]api.AvroKind{api.AvroKind(from), api.AvroKind(to)}]
			switch {
			case from == to:
				turnsEverywhere(t, w.of, r.of, w.d, w.d)
			case goes:
				turnsEverywhere(t, w.of, r.of, w.d, want)
			default:
				refusesEverywhere(t, w.of, r.of, w.d)
			}
		}
	}
}

// TestGoes: P12.2: each pair of kinds, those that are none too.
func TestGoes(t *testing.T) {
	into := map[api.AvroKind][]api.AvroKind{2: {3, 4, 5}, 3: {4, 5}, 4: {5}, 6: {7}, 7: {6}}
	all := []api.AvroKind{-1, -2, 14, 15, 256 + 2, 1<<32 + 3, math.MaxInt, math.MinInt}
	for kind := api.AvroNull; kind <= api.AvroUnion; kind++ {
		all = append(all, kind)
	}
	for _, from := range all {
		for _, to := range all {
			want := false
			for _, kind := range into[from] {
				want = want || kind == to
			}
			if got := avroresolve.Goes(from, to); got != want {
				t.Errorf("P12.2: Goes of %d, %d: %t", from, to, got)
			}
			if goesInto(from, to) != want {
				t.Errorf("the tests' model: %d into %d", from, to)
			}
		}
	}
}

// TestLast: P12.2: names with no space, with one part of it, with several; of what is no name none.
func TestLast(t *testing.T) {
	part := strings.Repeat("a", 128)
	names := map[string]string{
		"C": "C", "a.C": "C", "a.b.C": "C", "a.b.c.D": "D", "_": "_", "_._": "_", "a._0": "_0", "a.a": "a", "a.b1.C23_": "C23_",
		"int": "int", "a.int": "int", "null.string": "string", "A.Z": "Z", "a.z": "z", "a.a0123456789": "a0123456789",
		part: part, "a." + part[:126]: part[:126], part[:126] + ".b": "b", strings.Repeat("a.", 63) + "bc": "bc",
	}
	for name, want := range names {
		if got := avroresolve.Last(name); got != want {
			t.Errorf("P12.2: Last of %q: %q, not %q", name, got, want)
		}
	}
	for _, name := range []string{
		"", ".", "..", "a.", ".a", "a..b", "a.b.", ".a.b", "1", "1a", "a.1", "a.1b", "1.a", "a.9.b", "-", "a-b", "a.b-c", "a-b.c", " ", " a", "a ", "a. b", "a .b", "a b",
		"@", "a@", "[", "a[", "`", "a`", "{", "a{", "/", "a/", ":", "a:", "a.b:c", "\x00", "a\x00", "\u00e9", "a.\u00e9", "\u00e9.a", "a\u00e9b", "\u0130", "\uff21", "\u0661", "a\u0661", "\xff", "a\xff", "a.\xff", "\xff.a", "a\n", "a,b", "a.b\\c",
		part + "a", "a." + part[:127], part[:127] + ".b", strings.Repeat("a.", 64) + "b", strings.Repeat("a.", 1<<16) + "b",
	} {
		if got := avroresolve.Last(name); got != "" {
			t.Errorf("P12.2: Last of %q: %q", name, got)
		}
	}
	for c := range 256 {
		letter := string([]byte{byte(c)})
		isFirst := strings.Contains("ABCDEFGHIJKLMNOPQRSTUVWXYZabcdefghijklmnopqrstuvwxyz_", letter)
		isMore := isFirst || strings.Contains("0123456789.", letter)
		for name, is := range map[string]bool{letter: isFirst, "a." + letter: isFirst, "a" + letter + "b": isMore, letter + ".b": isFirst, letter + "b": isFirst} {
			want := ""
			if is {
				want = lastPart(name)
			}
			if got := avroresolve.Last(name); got != want {
				t.Errorf("P12.2: Last of %q: %q, not %q", name, got, want)
			}
		}
	}
}
