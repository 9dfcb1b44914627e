package avroresolve_test

import (
	"math"
	"math/big"
	"strings"
	"testing"

	"lexicon/api"
	"lexicon/avro"
	"lexicon/avrocodec"
	"lexicon/avroresolve"
	"lexicon/jsontext"
)

// tells complains if Default of a node does not tell that value.
func tells(t *testing.T, s api.Avro, node int, v api.JSON, want api.Datum) {
	t.Helper()
	if got, e := avroresolve.Default(s, node, v); e != api.OK || !same(got, want) {
		t.Errorf("P12.2: Default of %s, %d, %s: %s, %d; not %s", show(s), node, show(v), show(got), e, show(want))
	}
	if e := avrocodec.Check(s, node, want); e != api.OK {
		t.Errorf("P12.3: %s does not fit %s, %d: %d", show(want), show(s), node, e)
	}
	if got, ok := defaultOf(s, node, v); !ok || !same(got, want) {
		t.Errorf("the tests' model: %s, %d, %s: %s; not %s", show(s), node, show(v), show(got), show(want))
	}
}

// denies complains if Default of a node does not answer that error.
func denies(t *testing.T, s api.Avro, node int, v api.JSON, want api.Errno) {
	t.Helper()
	if got, e := avroresolve.Default(s, node, v); e != want || !same(got, api.Datum{}) {
		t.Errorf("P12.2: Default of %s, %d, %s: %s, %d; not %d", show(s), node, show(v), show(got), e, want)
	}
}

// TestDefault: P12.2: a default of each kind of node, as a value.
func TestDefault(t *testing.T) {
	for _, x := range []struct {
		of, v string
		want  api.Datum
	}{
		{`"null"`, "null", null()},
		{`"boolean"`, "true", boolean(true)},
		{`"boolean"`, "false", boolean(false)},
		{`"int"`, "0", short(0)},
		{`"int"`, "-0", short(0)},
		{`"int"`, "-1", short(-1)},
		{`"int"`, "2147483647", short(math.MaxInt32)},
		{`"int"`, "-2147483648", short(math.MinInt32)},
		{`"int"`, "1.5e2", short(150)},
		{`"int"`, "1200.0", short(1200)},
		{`"long"`, "9223372036854775807", long(math.MaxInt64)},
		{`"long"`, "-9223372036854775808", long(math.MinInt64)},
		{`"long"`, "9e18", long(9e18)},
		{`"long"`, "2147483648", long(1 << 31)},
		{`"float"`, "0", float(0)},
		{`"float"`, "1", float(0x3f800000)},
		{`"float"`, "-2.5", float(0xc0200000)},
		{`"double"`, "0", double(0)},
		{`"double"`, "1", double(0x3ff0000000000000)},
		{`"double"`, "-2.5", double(0xc004000000000000)},
		{`"bytes"`, `""`, binary("")},
		{`"bytes"`, `"\u00ff\u0000\u0080a\u007f"`, binary("\xff\x00\x80a\x7f")},
		{`"bytes"`, `"é"`, binary("\xe9")},
		{`"string"`, `""`, text("")},
		{`"string"`, `"\u00ff\u0000a€\ud83d\ude00"`, text("\u00ff\x00a\u20ac\U0001f600")},
		{fixed("F", 0), `""`, fix("")},
		{fixed("F", 3), `"\u00ff\u0000\u0080"`, fix("\xff\x00\x80")},
		{enum("E", "A", "B", "C"), `"A"`, symbol(0)},
		{enum("E", "A", "B", "C"), `"C"`, symbol(2)},
		{enumOr("A", "E", "A", "B", "C"), `"B"`, symbol(1)},
		{record("R"), "{}", fields()},
		{record("R", field("a", `"int"`), field("b", `"string"`)), `{"a":1,"b":"x"}`, fields(short(1), text("x"))},
		{record("R", field("a", `"int"`), field("b", `"string"`)), `{"b":"x","a":1}`, fields(short(1), text("x"))},
		{record("R", field("c", `"int"`), field("a", `"int"`), field("b", `"int"`)), `{"a":1,"b":2,"c":3}`, fields(short(3), short(1), short(2))},
		{record("R", fieldOr("a", `"int"`, "5")), `{"a":1}`, fields(short(1))},
		{array(`"int"`), "[]", list()},
		{array(`"int"`), "[3,1,2,1]", list(short(3), short(1), short(2), short(1))},
		{array(array(`"bytes"`)), `[[],["a"],["\u00e9",""]]`, list(list(), list(binary("a")), list(binary("\xe9"), binary("")))},
		{dict(`"int"`), "{}", dicted()},
		{dict(`"int"`), `{"b":1,"a":2,"":3,"é":1}`, dicted("b", short(1), "a", short(2), "", short(3), "\u00e9", short(1))},
		{dict(dict(`"null"`)), `{"x":{"y":null,"x":null},"a":{}}`, dicted("x", dicted("y", null(), "x", null()), "a", dicted())},
		{union(`"null"`, `"int"`), "null", branch(0, null())},
		{union(`"int"`, `"null"`), "7", branch(0, short(7))},
		{union(`"double"`, `"int"`), "7", branch(0, double(bits64(7)))},
		{union(`"bytes"`, `"string"`), `"é"`, branch(0, binary("\xe9"))},
		{union(`"string"`, `"bytes"`), `"é"`, branch(0, text("\u00e9"))},
		{union(array(union(`"int"`, `"null"`)), `"null"`), "[1,2]", branch(0, list(branch(0, short(1)), branch(0, short(2))))},
		{record("R", field("a", union(record("S", field("x", dict(array(enum("E", "A", "B")))), field("y", fixed("F", 1))), `"null"`)), field("b", `"S"`)),
			`{"b":{"y":"\u00fe","x":{}},"a":{"x":{"k":["B","A"],"j":[]},"y":"z"}}`,
			fields(branch(0, fields(dicted("k", list(symbol(1), symbol(0)), "j", list()), fix("z"))), fields(dicted(), fix("\xfe")))},
		{record("R", field("v", `"int"`), field("next", array(`"R"`))), `{"next":[{"v":1,"next":[]},{"next":[{"v":2,"next":[]}],"v":3}],"v":4}`,
			fields(short(4), list(fields(short(1), list()), fields(short(3), list(fields(short(2), list())))))},
	} {
		tells(t, made(x.of), 0, value(x.v), x.want)
		// As a field's default.
		turns(t, made(record("Z")), made(record("Z", fieldOr("z", x.of, x.v))), fields(), fields(x.want))
	}
}

// TestDefaultWithin: P12.2: Default goes by the node that it is told, also by one within.
func TestDefaultWithin(t *testing.T) {
	s := made(record("R", field("a", `"int"`), field("b", array(`"string"`)), field("c", union(`"null"`, `"R"`)), field("d", fixed("F", 1))))
	// 0 R, 1 int, 2 list, 3 string, 4 union, 5 null, 6 F.
	texts := []string{`{"a":1,"b":[],"c":null,"d":"x"}`, "5", `["a","b"]`, `"a"`, "null", "null", `"x"`}
	wants := []api.Datum{fields(short(1), list(), branch(0, null()), fix("x")), short(5), list(text("a"), text("b")), text("a"), branch(0, null()), null(), fix("x")}
	for node := range s.Nodes {
		for _, text := range texts {
			if want, _ := defaultOf(s, node, value(text)); avro.Fits(s, node, value(text)) {
				tells(t, s, node, value(text), want)
			} else {
				denies(t, s, node, value(text), api.ErrDefault)
			}
		}
		tells(t, s, node, value(texts[node]), wants[node])
	}
}

// TestNearest: P12.2: a number becomes the nearest float, to even of two, whatever digits it has.
func TestNearest(t *testing.T) {
	texts := []string{
		"0", "1", "-1", "0.1", "0.3", "-0.7", "3.4028234e38", "3.4028234663852886e38", "3.4028235677973366e38", "-3.4028235677973366e38",
		"16777217", "16777219", "16777217.000000000000000000000000001", "16777216.999999999999999999999999999", "33554434", "33554433.99999999999999999999999999999999", "33554434.00000000000000000000000001",
		"1.00000005960464477539062500", "1.000000059604644775390625000000000000000000000000000000000000001", "1.000000059604644775390624999999999999999999999999999999999999999",
		"9007199254740993", "9007199254740993.0000000000000000000000000000000000000000000001", "9007199254740992.9999999999999999999999999999999999999999999999",
		"9007199254740995", "1.00000000000000011102230246251565404236316680908203125", "1.000000000000000111022302462515654042363166809082031250000000000000000000000000001", "1.000000000000000111022302462515654042363166809082031249999999999999999999999999999",
		"1.4e-45", "7e-46", "7.006492321624085e-46", "7.1e-46", "1e-46", "-1e-46", "1e-1000", "-1e-1000", "1.1754943e-38", "1.1754942e-38", "5e-324", "2.4703282292062327e-324", "2.4703282292062328e-324", "-3e-324", "1e-324", "2.2250738585072011e-308", "2.2250738585072014e-308",
		"1e22", "1e23", "123456789012345678901234567890", "1e-7", "8.5e-9", "1e38", "-1e38", "0.000001", "1e21", "100000000000000000000",
		"1." + strings.Repeat("3", 99), "0." + strings.Repeat("9", 100), strings.Repeat("9", 30) + "." + strings.Repeat("9", 70), "-" + strings.Repeat("7", 38), strings.Repeat("1", 38) + "." + strings.Repeat("1", 62),
	}
	for i := range 40 {
		// Half way between two floats of 32, of 64 bits, of several powers, and a little beside.
		for _, bits := range []int{24, 53} {
			half := new(big.Int).Lsh(big.NewInt(int64(2*i+1)), 1)
			half.Add(half.Add(half, new(big.Int).Lsh(big.NewInt(1), uint(bits))), big.NewInt(1)).Lsh(half, uint(i))
			texts = append(texts, half.String(), half.String()+".000001", new(big.Int).Sub(half, big.NewInt(1)).String()+".9999999", "-"+half.String(), half.String()+"e-17", half.String()+"e-30")
		}
	}
	for _, n := range texts {
		v := value(n)
		exact, ok := new(big.Rat).SetString(n)
		if !ok {
			t.Fatalf("the tests' number: %s", n)
		}
		f, _ := exact.Float32()
		g, _ := exact.Float64()
		if !math.IsInf(float64(f), 0) {
			tells(t, made(`"float"`), 0, v, float(bits32(f)))
			tells(t, made(array(union(`"float"`, `"null"`))), 0, api.JSON{Kind: api.JSONList, List: []api.JSON{v}}, list(branch(0, float(bits32(f)))))
		}
		tells(t, made(`"double"`), 0, v, double(bits64(g)))
		turns(t, made(record("R")), made(record("R", fieldOr("a", `"double"`, n))), fields(), fields(double(bits64(g))))
	}
	for n, b := range map[string][2]uint64{
		"1e308": {0, 0x7fe1ccf385ebc8a0}, "-1.7976931348623157e308": {0, 0xffefffffffffffff},
		"0.1": {0x3dcccccd, 0x3fb999999999999a}, "16777217": {0x4b800000, 0x4170000010000000}, "16777219": {0x4b800002, 0x4170000030000000},
		"1.4e-45": {1, 0x369ff868bf4d956a}, "7e-46": {0, 0x368ff868bf4d956a}, "7.1e-46": {1, 0x369036aa2680f22c}, "5e-324": {0, 1}, "3.4028235677973366e38": {0x7f7fffff, 0x47effffff0000000},
	} {
		if math.Abs(math.Float64frombits(b[1])) < 1e39 {
			tells(t, made(`"float"`), 0, value(n), float(b[0]))
		}
		tells(t, made(`"double"`), 0, value(n), double(b[1]))
	}
	// What would be rounded twice by way of 64 bits.
	tells(t, made(`"float"`), 0, value("1.00000005960464484"), float(0x3f800001))
	tells(t, made(`"float"`), 0, value("16777217.0000000001"), float(0x4b800001))
	tells(t, made(`"float"`), 0, value("-16777217.0000000001"), float(0xcb800001))
	tells(t, made(`"float"`), 0, value("16777216.9999999999"), float(0x4b800000))
}

// TestDenied: P12.2: what does not fit the node is ErrDefault.
func TestDenied(t *testing.T) {
	pool := []string{"null", "true", "0", "-1", "1.5", "2147483648", "9223372036854775808", "3.5e38", "1e309", `""`, `"A"`, `"ab"`, `"\u0100"`, "[]", "[null]", "[1]", `["A",1]`, "{}", `{"a":1}`, `{"a":"A"}`, `{"a":1,"b":2}`, `{"a":null}`, `{"A":1}`}
	for _, x := range []struct {
		of   string
		fits string // which of the pool fit
	}{
		{`"null"`, "null"},
		{`"boolean"`, "true"},
		{`"int"`, "0 -1"},
		{`"long"`, "0 -1 2147483648"},
		{`"float"`, "0 -1 1.5 2147483648 9223372036854775808"},
		{`"double"`, "0 -1 1.5 2147483648 9223372036854775808 3.5e38"},
		{`"bytes"`, `"" "A" "ab"`},
		{`"string"`, `"" "A" "ab" "\u0100"`},
		{fixed("F", 1), `"A"`},
		{fixed("F", 2), `"ab"`},
		{enum("E", "A", "B"), `"A"`},
		{enumOr("B", "E", "A", "B"), `"A"`},
		{record("R"), "{}"},
		{record("R", field("a", `"int"`)), `{"a":1}`},
		{record("R", fieldOr("a", `"int"`, "1")), `{"a":1}`},
		{record("R", field("b", `"int"`), fieldOr("a", `"int"`, "1")), `{"a":1,"b":2}`},
		{array(`"int"`), "[] [1]"},
		{array(`"null"`), "[] [null]"},
		{dict(`"int"`), `{} {"a":1} {"a":1,"b":2} {"A":1}`},
		{dict(`"string"`), `{} {"a":"A"}`},
		{union(`"null"`, `"int"`), "null"},
		{union(`"int"`, `"null"`, `"string"`), "0 -1"},
		{union(array(union(`"null"`, `"int"`)), `"int"`), "[] [null]"},
	} {
		s := made(x.of)
		is := strings.Fields(x.fits)
		for _, p := range pool {
			v := value(p)
			if want, ok := defaultOf(s, 0, v); contains(is, p) && ok {
				tells(t, s, 0, v, want)
			} else {
				denies(t, s, 0, v, api.ErrDefault)
			}
			// One that does not fit among such as do.
			within := api.JSON{Kind: api.JSONList, List: []api.JSON{v}}
			if !contains(is, p) {
				denies(t, made(array(x.of)), 0, within, api.ErrDefault)
			}
		}
		for _, v := range none() {
			denies(t, s, 0, v, api.ErrDefault)
		}
	}
}

// contains tells whether a text is one of some.
func contains(l []string, text string) bool {
	for _, one := range l {
		if one == text {
			return true
		}
	}
	return false
}

// none are values that may not be, by layer 8.
func none() []api.JSON {
	deep := api.JSON{}
	for range 65 {
		deep = api.JSON{Kind: api.JSONList, List: []api.JSON{deep}}
	}
	l := []api.JSON{
		{Kind: -1}, {Kind: 6}, {Kind: api.JSONNull, Text: "a"}, {Kind: api.JSONBool, Text: "a"}, {Kind: api.JSONNumber, Bool: true},
		{Kind: api.JSONNumber, Number: api.Decimal{Digits: "10"}}, {Kind: api.JSONNumber, Number: api.Decimal{Neg: true}}, {Kind: api.JSONNumber, Number: api.Decimal{Digits: "1", Exp: 1001}},
		{Kind: api.JSONText, Text: "\xff"}, {Kind: api.JSONText, Text: "A", Names: []string{"a"}}, {Kind: api.JSONText, Text: strings.Repeat("a", api.MaxText)},
		{Kind: api.JSONList, List: []api.JSON{{Kind: 9}}}, {Kind: api.JSONList, Names: []string{"a"}},
		{Kind: api.JSONObject, Names: []string{"a"}}, {Kind: api.JSONObject, Names: []string{"a", "a"}, List: make([]api.JSON, 2)}, {Kind: api.JSONObject, Names: []string{"\xff"}, List: make([]api.JSON, 1)},
		deep,
	}
	for _, v := range l {
		if jsontext.Check(v) == api.OK {
			panic("the tests' values")
		}
	}
	return l
}
