package avro_test

import (
	"math"
	"math/big"
	"slices"
	"strings"
	"testing"

	"lexicon/api"
	"lexicon/avro"
	"lexicon/jsontext"
)

// text is a text's value; other values are told by value.
func text(s string) api.JSON { return api.JSON{Kind: api.JSONText, Text: s} }

// around are the number 2^exp - 2^low, and those one above and below, and of other signs, as texts.
func around(exp, low uint) []string {
	n := new(big.Int).Sub(new(big.Int).Lsh(big.NewInt(1), exp), new(big.Int).Lsh(big.NewInt(1), low))
	var l []string
	for d := range int64(3) {
		m := new(big.Int).Add(n, big.NewInt(d-1))
		l = append(l, m.String(), m.Neg(m).String())
	}
	return l
}

// pool are values of all kinds, those at the edges of numbers among them.
func pool() []api.JSON {
	l := []api.JSON{text(""), text("a"), text("A"), text("B"), text("ab"), text("\u00ff"), text("\u0100"), text("a\u00ff"), text("\u00ff\u00fe"), text("\u00ff\u0100"), text("\x00\x7f"), text("\u0080\u00a0"), text("\U0001f600"), text("\ufffd"), text("\u00e9e"), text("e\u0301"), text("abc"), text("null"), text("1")}
	numbers := []string{"0", "-0", "1", "-1", "1.0", "1e2", "100e-2", "-2.50e1", "0.5", "-0.5", "1e-1", "1.5", "1e18", "1e19", "1e20", "-1e19", "9.223372036854775807e18", "9.223372036854775808e18", "2.147483647e9", "2.147483648e9", "2147483647.5", "-2147483648.5", "1e38", "3.4e38", "3.5e38", "-3.5e38", "1e39", "-1e39", "1e308", "1.7e308", "1.8e308", "-1.8e308", "1e309", "-1e309", "1e1000", "-1e1000", "1e-1000", "-1e-45", "1e-46", "4e-324", "1e-400", strings.Repeat("9", 100), "-0." + strings.Repeat("3", 100),
		"3.4028234663852886e38", "3.4028235677973366e38", "3.4028235677973367e38", "1.7976931348623157e308", "1.7976931348623158e308", "1.7976931348623159e308", "-1.7976931348623158e308", "-1.7976931348623159e308",
		"1.797693134862315807e308", "1.797693134862315808e308", "1.7976931348623158079372897140530341507993413271003782e308", "1.7976931348623158079372897140530341507993413271003783e308", "1.7976931348623157081452742373170435679807056752584499e308"}
	for _, n := range append(append(append(append(append(append(numbers, around(31, 0)...), around(63, 0)...), around(32, 0)...), around(64, 0)...), around(128, 103)...), around(128, 104)...) {
		l = append(l, value(n))
	}
	for _, s := range []string{"null", "true", "false", "[]", "{}", "[null]", "[1]", "[1,2]", `["A"]`, "[1,null]", "[null,1]", "[[]]", "[[1]]", `{"a":1}`, `{"a":null}`, `{"a":"A"}`, `{"b":1}`, `{"a":1,"b":"x"}`, `{"b":"x","a":1}`, `{"a":1,"b":"x","c":0}`, `{"a":1,"b":1}`, `{"a":"x","b":"x"}`, `{"a":1,"c":"x"}`, `{"":1}`, `{"a":{}}`, `{"a":[]}`, `{"a":[1]}`, `{"a":1,"b":2.5}`, `[{"a":1,"b":"x"}]`, `{"n":null}`, `{"n":{"n":null}}`, `{"l":[]}`, `{"l":[{"l":[]},{"l":[]}]}`, `{"l":[{"l":[{"l":null}]}]}`} {
		l = append(l, value(s))
	}
	return l
}

// fitting are schemas, as texts, whose values are asked.
func fitting() []string {
	l := []string{
		fixed("F", 0), fixed("F", 1), fixed("F", 2), fixed("a.F", 3), enum("E", "A"), with(enum("E", "A", "B"), `"default":"B"`), record("R"), record("R", field("a", `"int"`), field("b", `"string"`)), record("R", field("b", `"string"`), field("a", `"long"`)), record("R", fieldOr("a", `"int"`, "1")), record("R", field("a", dict(`"null"`))), record("R", field("a", array(`"int"`))),
		record("R", field("n", union(`"null"`, `"R"`))), record("R", field("n", `"R"`)), record("R", field("n", union(`"R"`, `"null"`))), record("R", field("l", array(`"R"`))), record("R", field("l", union(array(union(`"R"`)), `"null"`))),
		array(union(`"int"`, `"null"`)), array(union(`"null"`, `"int"`)), array(array(`"int"`)), dict(array(`"int"`)), array(record("R", field("a", `"double"`), field("b", `"bytes"`))), union(array(`"null"`)), union(dict(`"int"`), `"null"`), union(fixed("F", 2), `"string"`), union(record("R", field("a", `"int"`)), `"null"`),
	}
	for _, name := range plain {
		l = append(l, quoted(name), union(quoted(name)), array(quoted(name)), dict(quoted(name)))
	}
	for _, one := range plain[:4] {
		for _, other := range plain[4:] {
			l = append(l, union(quoted(one), quoted(other)), union(quoted(other), quoted(one)))
		}
	}
	return l
}

// TestFits: P9.1, P9.2: which values fit, as a field's default that Make reads, in a schema that Check is handed, and of Fits.
func TestFits(t *testing.T) {
	for _, of := range fitting() {
		m := &model{defined: map[string]*type_{}}
		n, _ := m.read(value(of), "")
		for _, v := range pool() {
			want, e, ch := n.fits(v), api.OK, api.OK
			if !want {
				e, ch = api.ErrDefault, api.ErrAvro
			}
			or := string(jsontext.Print(v))
			s, got := avro.Make([]byte(record("Outer", fieldOr("f", of, or), field("g", `"null"`))))
			if got != e || e == api.OK && !jsontext.Equal(s.Nodes[0].Fields[0].Default, v) {
				t.Errorf("P9.1: Make of the default %s of %s: %d", or, of, got)
			}
			s = takes(t, record("Outer", field("f", `"null"`), field("g", of)))
			if got := avro.Fits(s, 2, v); got != want {
				t.Errorf("P9.2: Fits of %s and %s: %t", of, or, got)
			}
			s.Nodes[0].Fields[1].Has, s.Nodes[0].Fields[1].Default = true, v
			if got := avro.Check(s); got != ch {
				t.Errorf("P9.1: Check of the default %s of %s: %d", or, of, got)
			}
			if got := avro.Fits(s, 2, v); got != want {
				t.Errorf("P9.2: Fits of %s and %s: %t", of, or, got)
			}
		}
	}
}

// TestFitsPlainly: P9.1, P9.2: some values that fit, and some that do not, as the chapter's words have it.
func TestFitsPlainly(t *testing.T) {
	for _, x := range []struct{ of, right, wrong string }{
		{`"null"`, "null", `false 0 "null" [] {}`},
		{`"boolean"`, "true false", `null 0 1 "true" [] {}`},
		{`"int"`, "0 -1 1.0 1e2 10e-1 2147483647 -2147483648 2.147483647e9 -0", `2147483648 -2147483649 0.5 1.5 2.147483648e9 "1" null true [1] {}`},
		{`"long"`, "0 -1 1.0 1e18 2147483648 9223372036854775807 -9223372036854775808 9.223372036854775807e18", `9223372036854775808 -9223372036854775809 0.5 1e19 1e-1 "1" null true [1] {}`},
		{`"float"`, "0 -1 0.5 1e-1000 3.4028234663852886e38 3.4028235677973366e38 -3.4028235677973366e38 340282356779733661637539395458142568447", `3.4028235677973367e38 -3.4028235677973367e38 340282356779733661637539395458142568448 -340282356779733661637539395458142568448 1e39 1e1000 "1" null`},
		{`"double"`, "0 -1 0.5 1e39 1e-1000 1.7976931348623158e308 -1.7976931348623158e308 1.797693134862315807e308", `1.7976931348623159e308 -1.7976931348623159e308 1.797693134862315808e308 1e309 1e1000 "1" null`},
		{`"bytes"`, "\"\" \"a\" \"\u00ff\" \"\\u0000\u0080\"", "\"\u0100\" \"a\u0100\" \"\U0001f600\" null 1 [] {}"},
		{`"string"`, "\"\" \"a\" \"\u00ff\" \"\u0100\" \"\U0001f600\"", "null 1 true [] {} [\"a\"]"},
		{fixed("F", 2), "\"ab\" \"\u00ff\u00ff\" \"\\u0000\u0080\"", "\"\" \"a\" \"abc\" \"\u00ff\" \"a\u0100\" null 12 [1,2] {}"},
		{fixed("F", 0), `""`, `"a" null 0 [] {}`},
		{enum("E", "A", "B"), `"A" "B"`, `"" "C" "a" "AB" null 0 1 ["A"] {"A":"A"}`},
		{record("R"), "{}", `{"a":1} null [] "" 0`},
		{record("R", field("a", `"int"`), field("b", `"string"`)), `{"a":1,"b":""} {"b":"","a":1}`, `{} {"a":1} {"b":""} {"a":1,"b":"","c":0} {"a":"","b":""} {"a":1,"b":1} {"a":1,"c":""} {"A":1,"b":""} [1,""] null`},
		{record("R", fieldOr("a", `"int"`, "1")), `{"a":1}`, `{} {"a":null} null`},
		{array(`"int"`), "[] [1] [1,2]", `[null] [1,null] [null,1] [0.5] {} {"a":1} 1 null ""`},
		{dict(`"int"`), `{} {"a":1} {"":1,"b":2}`, `{"a":null} {"a":1,"b":null} {"a":null,"b":1} [] [1] 1 null ""`},
		{union(`"null"`, `"int"`), "null", `1 "null" {"int":1} []`},
		{union(`"int"`, `"null"`), "1", `null {"int":1} [1] 0.5`},
		{union(array(`"int"`), `"int"`), "[] [1]", `1 [null] null`},
		{array(union(`"null"`, `"int"`)), "[] [null]", `[1] [null,1] null`},
		{record("N", field("n", union(`"null"`, `"N"`))), `{"n":null}`, `{"n":{"n":null}} {} null`},
		{record("L", field("l", array(`"L"`))), `{"l":[]} {"l":[{"l":[]},{"l":[{"l":[]}]}]}`, `{"l":[{}]} {"l":[{"l":[{"l":null}]}]} [] null`},
	} {
		for _, or := range strings.Fields(x.right) {
			takes(t, record("Outer", fieldOr("f", x.of, or)))
			fitsAs(t, x.of, or, true)
		}
		for _, or := range strings.Fields(x.wrong) {
			refuses(t, api.ErrDefault, record("Outer", fieldOr("f", x.of, or)))
			fitsAs(t, x.of, or, false)
		}
	}
	takes(t, record("R", fieldOr("f", array(`"R"`), "[]"), field("g", `"int"`)))
	refuses(t, api.ErrDefault, record("R", fieldOr("f", array(`"R"`), `[{"f":[]}]`), field("g", `"int"`)))
	takes(t, record("R", fieldOr("f", array(`"R"`), `[{"f":[],"g":1}]`), field("g", `"int"`)))
	refuses(t, api.ErrDefault, record("R", fieldOr("f", `"R"`, "null")))
	refuses(t, api.ErrDefault, array(record("R", field("e", `"int"`), field("g", record("S", fieldOr("f", `"int"`, "null"))))))
	refuses(t, api.ErrDefault, record("R", fieldOr("e", `"int"`, "1"), fieldOr("f", `"int"`, "null"), fieldOr("g", `"int"`, "1")))
	makes(t, `record R(f:1=null); null`, record("R", fieldOr("f", `"null"`, "null")))
}

// fitsAs complains if Fits answers anything but what is wanted.
func fitsAs(t *testing.T, of, or string, want bool) {
	t.Helper()
	if got := avro.Fits(takes(t, of), 0, value(or)); got != want {
		t.Errorf("P9.2: Fits of %s and %s: %t", of, or, got)
	}
}

// TestFitsNot: P9.2: nothing fits a schema, or a node, that may not be; no value that may not be fits.
func TestFitsNot(t *testing.T) {
	s := takes(t, record("R", field("a", `"null"`), field("b", `"null"`)))
	for node, want := range map[int]bool{0: false, 1: true, 2: true, 3: false, -1: false, 4: false, 256: false, math.MaxInt: false, math.MinInt: false, 1 << 32: false} {
		if got := avro.Fits(s, node, api.JSON{}); got != want {
			t.Errorf("P9.2: Fits of node %d: %t", node, got)
		}
	}
	for at := range s.Nodes {
		b := edited(s, func(s *api.Avro) { s.Nodes[at].Size = 1 })
		if avro.Fits(b, 1, api.JSON{}) || avro.Fits(b, 2, api.JSON{}) {
			t.Errorf("P9.2: Fits of a schema that may not be")
		}
	}
	if avro.Fits(api.Avro{}, 0, api.JSON{}) {
		t.Errorf("P9.2: Fits of no schema")
	}
	for i, v := range wrongValues() {
		for _, of := range fitting() {
			s := takes(t, of)
			for at := range s.Nodes {
				if avro.Fits(s, at, v) {
					t.Errorf("P9.2: Fits of %s, node %d, and the value %d, which may not be", of, at, i)
				}
			}
		}
	}
	if s := takes(t, `"string"`); !avro.Fits(s, 0, text(long(1<<20-2))) || avro.Fits(s, 0, text(long(1<<20-1))) {
		t.Errorf("P9.2: Fits of values whose texts are as long as may be")
	}
	s = takes(t, dict(nest(`"null"`, 63, array)))
	v := value(nest("null", 63, func(s string) string { return union(s) }))
	if !avro.Fits(s, 0, value(`{"a":`+nest("null", 63, func(s string) string { return union(s) })+"}")) || !avro.Fits(s, 1, v) || avro.Fits(s, 0, v) {
		t.Errorf("P9.2: Fits of values that are as deep as may be")
	}
}

// wrongValues are values that may not be, most of which would fit something if what is wrong were passed over.
func wrongValues() []api.JSON {
	null := api.JSON{}
	deep := api.JSON{Kind: api.JSONList}
	for range 64 {
		deep = api.JSON{Kind: api.JSONList, List: []api.JSON{deep}}
	}
	return []api.JSON{
		{Kind: -1}, {Kind: 6}, {Kind: math.MaxInt}, {Bool: true}, {Text: "a"}, {List: []api.JSON{null}}, {Names: []string{""}}, {Kind: api.JSONBool, Text: "A"}, {Kind: api.JSONNumber, Number: api.Decimal{Digits: "10"}}, {Kind: api.JSONNumber, Number: api.Decimal{Neg: true}}, {Kind: api.JSONNumber, Text: "A"},
		text("\xff"), text("a\xff"), {Kind: api.JSONText, Text: "A", Bool: true},
		{Kind: api.JSONList, Names: []string{"a"}}, {Kind: api.JSONList, List: []api.JSON{{Kind: 7}}}, {Kind: api.JSONObject, Names: []string{"a"}}, {Kind: api.JSONObject, List: []api.JSON{null}}, {Kind: api.JSONObject, Names: []string{"a", "a"}, List: []api.JSON{value("1"), value("1")}}, {Kind: api.JSONObject, Names: []string{"\xff"}, List: []api.JSON{value("1")}},
		{Kind: api.JSONObject, Names: []string{"a", "b"}, List: []api.JSON{value("1"), text("\xff")}}, {Kind: api.JSONObject, Names: []string{"a", "b"}, List: []api.JSON{value("1")}}, deep,
	}
}

// edited is a schema of its own, with an edit.
func edited(s api.Avro, edit func(s *api.Avro)) api.Avro {
	s.Nodes = slices.Clone(s.Nodes)
	for i := range s.Nodes {
		n := &s.Nodes[i]
		n.Fields, n.Symbols, n.Kids = slices.Clone(n.Fields), slices.Clone(n.Symbols), slices.Clone(n.Kids)
	}
	edit(&s)
	return s
}
