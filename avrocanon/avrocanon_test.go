package avrocanon_test

import (
	"strconv"
	"strings"
	"testing"
	"unsafe"

	"lexicon/api"
	"lexicon/avro"
	"lexicon/avrocanon"
	"lexicon/crc"
	"lexicon/jsontext"
)

// value is the value that a JSON text tells.
func value(text string) api.JSON {
	v, e := jsontext.Parse([]byte(text))
	if e != api.OK {
		panic("no JSON: " + text)
	}
	return v
}

// made is the schema that a text tells.
func made(t *testing.T, text string, with ...api.Import) api.Avro {
	t.Helper()
	s, e := avro.Make([]byte(text), with...)
	if e != api.OK {
		t.Fatalf("the tests' text %.300s, %.300v: %d", text, with, e)
	}
	return s
}

// record and those below are the pieces of which the tests' texts are made, as normal forms have them.
func record(name string, fields ...string) string {
	return `{"name":"` + name + `","type":"record","fields":[` + strings.Join(fields, ",") + `]}`
}

func field(name, of string) string { return `{"name":"` + name + `","type":` + of + `}` }

func fieldOr(name, of, or string) string {
	return `{"name":"` + name + `","type":` + of + `,"default":` + or + `}`
}

func enum(name string, symbols ...string) string {
	return `{"name":"` + name + `","type":"enum","symbols":["` + strings.Join(symbols, `","`) + `"]}`
}

func enumOr(name, or string, symbols ...string) string {
	text := enum(name, symbols...)
	return text[:len(text)-1] + `,"default":"` + or + `"}`
}

func fixed(name string, size int) string {
	return `{"name":"` + name + `","type":"fixed","size":` + strconv.Itoa(size) + `}`
}

// noSpace is a named one with the empty namespace.
func noSpace(text string) string { return strings.Replace(text, `,`, `,"namespace":"",`, 1) }

func array(of string) string { return `{"type":"array","items":` + of + `}` }

func dict(of string) string { return `{"type":"map","values":` + of + `}` }

func union(of ...string) string { return "[" + strings.Join(of, ",") + "]" }

// imports are imports of names, each with its text behind it.
func imports(l ...string) []api.Import {
	var made []api.Import
	for i := 0; i < len(l); i += 2 {
		made = append(made, api.Import{Name: l[i], Text: l[i+1]})
	}
	return made
}

// tells complains if a call tells anything else of a schema with these forms.
func tells(t *testing.T, s api.Avro, normal, canon string) {
	t.Helper()
	if got, e := avrocanon.Normal(s); got != normal || e != api.OK {
		t.Errorf("P10.1: Normal: %d, %.1000s; not %.1000s", e, got, normal)
	}
	if got, e := avrocanon.Canon(s); got != canon || e != api.OK {
		t.Errorf("P10.1: Canon: %d, %.1000s; not %.1000s", e, got, canon)
	}
	if got, e := avrocanon.Finger(s); got != crc.Finger([]byte(canon)) || e != api.OK {
		t.Errorf("P10.1: Finger of %.1000s: %d, %x", canon, e, got)
	}
	if !avrocanon.Alike(s, s) {
		t.Errorf("P10.1: Alike of %.1000s and itself", canon)
	}
	if n, c, _ := modelled(s); n != normal || c != canon {
		t.Errorf("the tests' model: %.1000s, %.1000s; not %.1000s, %.1000s", n, c, normal, canon)
	}
}

// refuses complains if a call tells anything of a schema that may not be.
func refuses(t *testing.T, what string, s api.Avro) {
	t.Helper()
	if got, e := avrocanon.Normal(s); got != "" || e != api.ErrAvro {
		t.Errorf("P10.1: Normal, %s: %d, %.300s", what, e, got)
	}
	if got, e := avrocanon.Canon(s); got != "" || e != api.ErrAvro {
		t.Errorf("P10.1: Canon, %s: %d, %.300s", what, e, got)
	}
	if got, e := avrocanon.Finger(s); got != 0 || e != api.ErrAvro {
		t.Errorf("P10.1: Finger, %s: %d, %x", what, e, got)
	}
	right := api.Avro{Nodes: []api.AvroNode{{}}}
	for _, l := range [][2]api.Avro{{s, s}, {s, right}, {right, s}, {s, {}}, {{}, s}} {
		if avrocanon.Alike(l[0], l[1]) {
			t.Errorf("P10.1: Alike, %s", what)
		}
	}
}

// TestExamples: P10.1: the chapter's examples.
func TestExamples(t *testing.T) {
	s := made(t, `"int"`)
	tells(t, s, `"int"`, `"int"`)
	if f, e := avrocanon.Finger(s); f != 0x7275D51A3F395C8F || e != api.OK {
		t.Errorf("P10.1: Finger of int: %d, %x", e, f)
	}
	s = made(t, `{"type":"record","name":"a.R","fields":[{"name":"n","type":["null","R"],"default":null}]}`)
	tells(t, s, `{"name":"a.R","type":"record","fields":[{"name":"n","type":["null","a.R"],"default":null}]}`, `{"name":"a.R","type":"record","fields":[{"name":"n","type":["null","a.R"]}]}`)
}

// TestForms: P10.1: the forms of texts of each kind; where no canonical form stands, it is the normal one.
func TestForms(t *testing.T) {
	for _, x := range []struct{ text, normal, canon string }{
		{text: `"null"`, normal: `"null"`},
		{text: `{"type":"boolean"}`, normal: `"boolean"`},
		{text: ` {"type" : {"type" : "int"}} `, normal: `"int"`},
		{text: `{"type":"long","logicalType":"timestamp-millis"}`, normal: `"long"`},
		{text: `"float"`, normal: `"float"`},
		{text: `"double"`, normal: `"double"`},
		{text: `"bytes"`, normal: `"bytes"`},
		{text: `"string"`, normal: `"string"`},

		{text: `{"type":"array","items":"int"}`, normal: `{"type":"array","items":"int"}`},
		{text: `{"values":{"type":"long"},"type":"map","doc":"x"}`, normal: `{"type":"map","values":"long"}`},
		{text: `{"items":{"items":{"values":{"values":"null","type":"map"},"type":"map"},"type":"array"},"type":"array"}`, normal: `{"type":"array","items":{"type":"array","items":{"type":"map","values":{"type":"map","values":"null"}}}}`},
		{text: `[ "int" ]`, normal: `["int"]`},
		{text: `[{"type":"string"},"null",{"type":"array","items":["null"]}]`, normal: `["string","null",{"type":"array","items":["null"]}]`},
		{text: `["null","boolean","int","long","float","double","bytes","string"]`, normal: `["null","boolean","int","long","float","double","bytes","string"]`},

		{text: `{"type":"fixed","size":0,"name":"F"}`, normal: `{"name":"F","type":"fixed","size":0}`},
		{text: `{"type":"fixed","name":"F","namespace":"","size":6.5536e4}`, normal: `{"name":"F","type":"fixed","size":65536}`},
		{text: `{"type":"fixed","name":"F","namespace":"a.b","size":1e0,"aliases":["G"]}`, normal: `{"name":"a.b.F","type":"fixed","size":1}`},
		{text: `{"type":"fixed","name":"a.F","namespace":"b","size":10}`, normal: `{"name":"a.F","type":"fixed","size":10}`},

		{text: `{"type":"enum","symbols":["A"],"name":"E"}`, normal: `{"name":"E","type":"enum","symbols":["A"]}`},
		{text: `{"default":"A","type":"enum","symbols":["B","A"],"name":"e.E"}`, normal: `{"name":"e.E","type":"enum","symbols":["B","A"],"default":"A"}`, canon: `{"name":"e.E","type":"enum","symbols":["B","A"]}`},

		{text: `{"fields":[],"name":"R","type":"record"}`, normal: `{"name":"R","type":"record","fields":[]}`},
		{text: `{"type":"record","name":"R","fields":[{"default":7,"name":"a","type":"int"},{"type":"null","name":"b"},{"type":{"type":"string"},"name":"c","default":"","order":"ignore"}]}`, normal: `{"name":"R","type":"record","fields":[{"name":"a","type":"int","default":7},{"name":"b","type":"null"},{"name":"c","type":"string","default":""}]}`, canon: `{"name":"R","type":"record","fields":[{"name":"a","type":"int"},{"name":"b","type":"null"},{"name":"c","type":"string"}]}`},
		{text: `{"type":"record","name":"R","fields":[{"name":"name","type":"int"},{"name":"type","type":"int"},{"name":"namespace","type":"string","default":"namespace"}]}`, normal: `{"name":"R","type":"record","fields":[{"name":"name","type":"int"},{"name":"type","type":"int"},{"name":"namespace","type":"string","default":"namespace"}]}`, canon: `{"name":"R","type":"record","fields":[{"name":"name","type":"int"},{"name":"type","type":"int"},{"name":"namespace","type":"string"}]}`},
		{text: `{"type":"record","name":"record","fields":[{"name":"f","type":{"type":"enum","name":"enum","symbols":["enum"]}},{"name":"g","type":["record","enum"]}]}`, normal: `{"name":"record","type":"record","fields":[{"name":"f","type":{"name":"enum","type":"enum","symbols":["enum"]}},{"name":"g","type":["record","enum"]}]}`},
	} {
		if x.canon == "" {
			x.canon = x.normal
		}
		tells(t, made(t, x.text), x.normal, x.canon)
	}
}

// TestNames: P10.1: a named node where it is met first and again, with a space and without one.
func TestNames(t *testing.T) {
	f, g := fixed("F", 1), fixed("a.F", 1)
	for _, normal := range []string{
		union(f, array(array(`"F"`)), dict(`"F"`), g),
		union(g, array(`"a.F"`), dict(array(`"a.F"`)), f),
		record("R", field("a", f), field("b", `"F"`), field("c", g), field("d", `"a.F"`), field("e", `"R"`)),
		record("a.R", field("a", g), field("b", `"a.F"`), field("c", array(`"a.R"`)), field("d", union(`"null"`, `"a.R"`, `"a.F"`))),
		record("a.R", field("a", fixed("b.F", 2)), field("b", `"b.F"`)),
		record("a.R", field("a", record("a.b.R", field("a", union(`"a.R"`, `"a.b.R"`)), field("b", record("c.R", field("a", union(`"a.R"`, `"a.b.R"`, `"c.R"`))))))),
		union(record("a.R", field("a", `"a.R"`)), record("b.R", field("a", `"a.R"`), field("b", `"b.R"`)), enum("E", "A"), array(union(`"a.R"`, `"b.R"`, `"E"`))),
		array(dict(union(`"null"`, enum("E", "A"), enum("e.E", "A")))),
		record("R", field("a", record("a.R", field("a", `"a.R"`), field("b", g))), field("b", union(`"R"`, `"a.R"`, `"a.F"`)), field("c", f)),

		record("a.R", field("a", noSpace(f))),
		record("a.R", field("a", noSpace(enum("E", "A"))), field("b", array(noSpace(f))), field("c", dict(union(`"null"`, noSpace(record("R")))))),
		record("a.R", field("a", noSpace(record("R", field("a", f), field("b", `"R"`), field("c", array(`"F"`)), field("d", g), field("e", `"a.R"`))))),
		record("a.R", field("a", noSpace(record("R", field("a", record("b.R", field("a", noSpace(f)), field("b", `"a.R"`))), field("b", `"F"`), field("c", record("S", field("a", enum("E", "A")))))))),
		union(record("a.R", field("a", noSpace(f)), field("b", noSpace(enumOr("E", "A", "A", "B")))), `"F"`, array(union(`"E"`, `"a.R"`))),
		array(record("a.b.c.R", field("a", dict(array(dict(noSpace(record("S", field("s", union(`"null"`, `"S"`)))))))))),
		record("R", field("a", record("_", field("_", record("a._", field("_", noSpace(fixed("x", 0))))))), field("x", `"x"`), field("y", `"_"`)),
		union(`"null"`, record("array.R", field("array", noSpace(enum("map", "map"))), field("b", array(noSpace(fixed("array", 0)))))),
	} {
		s := made(t, normal)
		tells(t, s, normal, strings.NewReplacer(`,"namespace":""`, "", `,"default":"A"`, "").Replace(normal))
	}
}

// TestSpaces: P10.1: however a text tells a name, its forms tell the full name, and a space where there is none.
func TestSpaces(t *testing.T) {
	f := `{"type":"fixed","size":1,`
	own := `{"type":"record","fields":[{"name":"f","type":`
	for _, x := range []struct{ text, normal string }{
		{f + `"name":"a.F"}`, fixed("a.F", 1)},
		{f + `"name":"F","namespace":"a"}`, fixed("a.F", 1)},
		{f + `"namespace":"","name":"F"}`, fixed("F", 1)},
		{own + f + `"name":"F"}}],"name":"R","namespace":"a"}`, record("a.R", field("f", fixed("a.F", 1)))},
		{own + f + `"name":"F","namespace":"a"}}],"name":"R","namespace":"a"}`, record("a.R", field("f", fixed("a.F", 1)))},
		{own + f + `"name":"F","namespace":"b"}}],"name":"a.R"}`, record("a.R", field("f", fixed("b.F", 1)))},
		{own + f + `"name":"F","namespace":""}}],"name":"a.R"}`, record("a.R", field("f", noSpace(fixed("F", 1))))},
		{own + f + `"name":"F","namespace":""}}],"name":"a.R","namespace":""}`, record("a.R", field("f", noSpace(fixed("F", 1))))},
		{own + f + `"name":"F","namespace":""}}],"name":"R","namespace":""}`, record("R", field("f", fixed("F", 1)))},
		{own + f + `"name":"F"}}],"name":"R","namespace":""}`, record("R", field("f", fixed("F", 1)))},
		{own + f + `"name":"F","namespace":"a"}}],"name":"R"}`, record("R", field("f", fixed("a.F", 1)))},
		{own + `["null","R"]}],"name":"a.R"}`, record("a.R", field("f", union(`"null"`, `"a.R"`)))},
		{own + `["null","a.R"]}],"name":"a.R"}`, record("a.R", field("f", union(`"null"`, `"a.R"`)))},
		{own + own + `["null","S","a.R"]}],"name":"S","namespace":"a.b"}}],"name":"a.R"}`, record("a.R", field("f", record("a.b.S", field("f", union(`"null"`, `"a.b.S"`, `"a.R"`)))))},
	} {
		tells(t, made(t, x.text), x.normal, strings.ReplaceAll(x.normal, `,"namespace":""`, ""))
	}
}

// TestImports: P10.1: what an import defines is told where it is met first, as it would be in the text.
func TestImports(t *testing.T) {
	of := imports("a.F", fixed("a.F", 2), "E", enumOr("E", "B", "A", "B"), "b.R", record("b.R", field("x", `"a.F"`), fieldOr("y", noSpace(record("S", fieldOr("z", `"long"`, "1.0"))), `{"z":2}`)))
	s := made(t, record("c.R", field("a", `"b.R"`), field("b", `"a.F"`), field("c", `"b.R"`)), of...)
	r := record("b.R", field("x", fixed("a.F", 2)), fieldOr("y", noSpace(record("S", fieldOr("z", `"long"`, "1"))), `{"z":2}`))
	tells(t, s, record("c.R", field("a", r), field("b", `"a.F"`), field("c", `"b.R"`)), record("c.R", field("a", record("b.R", field("x", fixed("a.F", 2)), field("y", record("S", field("z", `"long"`))))), field("b", `"a.F"`), field("c", `"b.R"`)))
	s = made(t, union(`"E"`, `"b.R"`, `"a.F"`), of...)
	tells(t, s, union(enumOr("E", "B", "A", "B"), r, `"a.F"`), union(enum("E", "A", "B"), record("b.R", field("x", fixed("a.F", 2)), field("y", record("S", field("z", `"long"`)))), `"a.F"`))
	s = made(t, `"d.R"`, imports("E", enumOr("E", "B", "A", "B"), "R", record("R", field("e", `"E"`)), "d.R", record("d.R", field("e", noSpace(record("T", field("r", `"R"`))))))...)
	tells(t, s, record("d.R", field("e", noSpace(record("T", field("r", record("R", field("e", enumOr("E", "B", "A", "B")))))))), record("d.R", field("e", record("T", field("r", record("R", field("e", enum("E", "A", "B"))))))))
	s = made(t, record("a.R", field("s", noSpace(record("S", field("e", `"E"`)))), field("f", `"a.F"`)), of[:2]...)
	tells(t, s, record("a.R", field("s", noSpace(record("S", field("e", enumOr("E", "B", "A", "B"))))), field("f", fixed("a.F", 2))), record("a.R", field("s", record("S", field("e", enum("E", "A", "B")))), field("f", fixed("a.F", 2))))
}

// TestDefaults: P10.1: a default is told as Print of Sorted, behind its field's type, and in the normal form alone.
func TestDefaults(t *testing.T) {
	ab := record("S", field("a", `"double"`), field("b", dict(`"double"`)))
	for _, x := range []struct{ of, or, told string }{
		{`"null"`, "null", ""},
		{`"boolean"`, "true", ""},
		{`"boolean"`, "false", ""},
		{`"int"`, "1.50e1", "15"},
		{`"int"`, "-0", "0"},
		{`"int"`, "-2147483648", ""},
		{`"long"`, "1e3", "1000"},
		{`"long"`, "9.223372036854775807E+18", "9223372036854775807"},
		{`"float"`, "0.10", "0.1"},
		{`"float"`, "-1E-7", "-1e-7"},
		{`"double"`, "1e21", ""},
		{`"double"`, "1e20", "100000000000000000000"},
		{`"double"`, "12.5e-4", "0.00125"},
		{`"bytes"`, `"\u00ff\u0000"`, "\"\u00ff\\u0000\""},
		{`"string"`, `""`, ""},
		{`"string"`, `"\u0041\/\u002f\"\\\b\f\n\r\t\u0008\u000A\u001F\u007f\u00E9\u2028\ud83d\ude00<&>'"`, "\"A//\\\"\\\\\\b\\f\\n\\r\\t\\b\\n\\u001f\u007f\u00e9\u2028\U0001f600<&>'\""},
		{fixed("F", 2), `"\u0061\u00Ff"`, "\"a\u00ff\""},
		{fixed("F", 0), `""`, ""},
		{enum("E", "A", "B"), `"\u0042"`, `"B"`},
		{array(`"int"`), "[ ]", "[]"},
		{array(`"int"`), "[3 , 1, 2.0]", "[3,1,2]"},
		{dict(`"int"`), "{ }", "{}"},
		{dict(`"int"`), `{"b":1, "a":2, "":3, "B":4, "aa":5, "\u00e9":6, "\ud83d\ude00":7, "\uffee":8, "a\n":9}`, "{\"\":3,\"B\":4,\"a\":2,\"a\\n\":9,\"aa\":5,\"b\":1,\"\u00e9\":6,\"\uffee\":8,\"\U0001f600\":7}"},
		{record("S"), "{}", ""},
		{ab, `{"b":{"y":1e0,"x":2.50},"a":10e-1}`, `{"a":1,"b":{"x":2.5,"y":1}}`},
		{ab, `{"a":0.0,"b":{}}`, `{"a":0,"b":{}}`},
		{record("S", field("z", `"null"`), field("y", array(dict(`"int"`))), field("x", `"string"`)), `{"z":null,"y":[{"b":1,"a":2},{}],"x":"{"}`, `{"x":"{","y":[{"a":2,"b":1},{}],"z":null}`},
		{union(`"null"`, `"int"`), "null", ""},
		{union(`"int"`, `"null"`), "1.0", "1"},
	} {
		if x.told == "" {
			x.told = x.or
		}
		s := made(t, record("R", field("o", `"int"`), fieldOr("f", x.of, x.or), field("g", `"int"`)))
		tells(t, s, record("R", field("o", `"int"`), fieldOr("f", x.of, x.told), field("g", `"int"`)), record("R", field("o", `"int"`), field("f", x.of), field("g", `"int"`)))
		s = made(t, array(union(record("a.R", fieldOr("o", `"int"`, "1"), field("n", noSpace(record("N", fieldOr("f", x.of, x.or))))), `"null"`)))
		tells(t, s, array(union(record("a.R", fieldOr("o", `"int"`, "1"), field("n", noSpace(record("N", fieldOr("f", x.of, x.told))))), `"null"`)), array(union(record("a.R", field("o", `"int"`), field("n", record("N", field("f", x.of)))), `"null"`)))
	}
}

// TestFinger: P10.1: the fingerprints of some schemas, as numbers.
func TestFinger(t *testing.T) {
	for text, want := range map[string]int64{
		`"null"`:            7195948357588979594,
		`"boolean"`:         -6970731678124411036,
		`{"type":"int"}`:    8247732601305521295,
		`"long"`:            -3434872931120570953,
		`"float"`:           5583340709985441680,
		`"double"`:          -8181574048448539266,
		`"bytes"`:           5746618253357095269,
		`"string"`:          -8142146995180207161,
		`["int"]`:           -5232228896498058493,
		`["int","boolean"]`: 5392556393470105090,
		`{"fields":[],"type":"record","name":"foo"}`:                                            -4824392279771201922,
		`{"fields":[{"name":"f1","type":"boolean"}],"type":"record","name":"foo"}`:              7843277075252814651,
		record("foo", fieldOr("f1", `"boolean"`, "true"), fieldOr("f2", `{"type":"int"}`, "1")): -4860222112080293046,
		`{"type":"enum","name":"foo","symbols":["A1"],"default":"A1"}`:                          -6342190197741309591,
		`{"namespace":"x.y.z","type":"enum","name":"foo","symbols":["A1","A2"]}`:                -4448647247586288245,
		fixed("foo", 15):       1756455273707447556,
		fixed("x.y.z.foo", 32): -3064184465700546786,
		array(`"null"`):        -589620603366471059,
		dict(`"string"`):       -8732877298790414990,
		record("PigValue", field("value", union(`"null"`, `"int"`, `"long"`, `"PigValue"`))): -1759257747318642341,
	} {
		if f, e := avrocanon.Finger(made(t, text)); f != uint64(want) || e != api.OK {
			t.Errorf("P10.1: Finger of %s: %d, %d", text, e, int64(f))
		}
	}
}

// TestAlike: P10.1, P10.2: which schemas have one canonical form, and which of these one normal form.
func TestAlike(t *testing.T) {
	const neither, alike, same = 0, 1, 2
	for _, x := range []struct {
		a, b string
		want int
	}{
		{`"int"`, `{"type":"int"}`, same},
		{`"int"`, `"long"`, neither},
		{`"string"`, `"bytes"`, neither},
		{`"int"`, `["int"]`, neither},
		{`["null","int"]`, `["int","null"]`, neither},
		{array(`"int"`), dict(`"int"`), neither},
		{record("R", field("a", `"int"`)), record("R", fieldOr("a", `"int"`, "1")), alike},
		{record("R", fieldOr("a", `"int"`, "2")), record("R", fieldOr("a", `"int"`, "1")), alike},
		{record("R", fieldOr("a", `"null"`, "null")), record("R", field("a", `"null"`)), alike},
		{record("R", fieldOr("a", dict(`"int"`), `{"x":1,"y":20}`)), record("R", fieldOr("a", dict(`"int"`), `{"y":2e1,"x":1.0}`)), same},
		{record("R", fieldOr("a", dict(`"int"`), `{"x":1}`)), record("R", fieldOr("a", dict(`"int"`), `{"X":1}`)), alike},
		{record("R", fieldOr("a", array(`"int"`), `[1,2]`)), record("R", fieldOr("a", array(`"int"`), `[2,1]`)), alike},
		{record("R", fieldOr("a", `"string"`, `"\u000aA"`)), record("R", fieldOr("a", `"string"`, `"\n\u0041"`)), same},
		{record("R", fieldOr("a", `"string"`, `"e\u0301"`)), record("R", fieldOr("a", `"string"`, `"\u00e9"`)), alike},
		{enum("E", "A", "B"), enumOr("E", "B", "A", "B"), alike},
		{enumOr("E", "A", "A", "B"), enumOr("E", "B", "A", "B"), alike},
		{enum("E", "A", "B"), enum("E", "B", "A"), neither},
		{enum("E", "A", "B"), enum("E", "A"), neither},
		{enum("E", "A"), enum("F", "A"), neither},
		{enum("E", "A"), enum("e.E", "A"), neither},
		{fixed("F", 1), fixed("F", 10), neither},
		{fixed("a.F", 1), fixed("b.F", 1), neither},
		{fixed("a.F", 1), `{"type":"fixed","size":1,"name":"F","namespace":"a"}`, same},
		{fixed("F", 1), noSpace(fixed("F", 1)), same},
		{noSpace(fixed("a.F", 1)), fixed("a.F", 1), same},
		{record("a.R", field("f", fixed("F", 1))), record("a.R", field("f", noSpace(fixed("F", 1)))), neither},
		{record("a.R", field("f", fixed("F", 1))), record("a.R", field("f", fixed("a.F", 1))), same},
		{record("R", field("f", fixed("F", 1))), record("R", field("f", noSpace(fixed("F", 1)))), same},
		{record("R", field("a", `"int"`), field("b", `"int"`)), record("R", field("b", `"int"`), field("a", `"int"`)), neither},
		{record("R", field("a", `"int"`)), record("R", field("A", `"int"`)), neither},
		{record("R", field("a", `"int"`)), record("R", field("a", `"long"`)), neither},
		{record("R", field("a", `"int"`)), record("R"), neither},
		{record("R"), fixed("R", 0), neither},
		{record("R", field("a", fixed("F", 1)), field("b", `"F"`)), record("R", field("a", fixed("F", 1)), field("b", fixed("G", 1))), neither},
		{record("R", field("a", fixed("F", 1)), field("b", `"F"`)), record("R", field("a", fixed("F", 1)), field("b", `"R"`)), neither},
		{`{"type":"record","name":"R","doc":"x","aliases":["S"],"fields":[{"name":"a","type":{"type":"int","logicalType":"date"},"order":"ignore"}]}`, record("R", field("a", `"int"`)), same},
	} {
		a, b := made(t, x.a), made(t, x.b)
		if avrocanon.Alike(a, b) != (x.want != neither) || avrocanon.Alike(b, a) != (x.want != neither) {
			t.Errorf("P10.1: Alike of %s, %s: %t, %t", x.a, x.b, avrocanon.Alike(a, b), avrocanon.Alike(b, a))
		}
		one, _ := avrocanon.Normal(a)
		other, _ := avrocanon.Normal(b)
		if (one == other) != (x.want == same) || avro.Same(a, b) != (x.want == same) {
			t.Errorf("P10.2: Normal of %s, %s: %s, %s; Same: %t", x.a, x.b, one, other, avro.Same(a, b))
		}
	}
}

// TestMemory: P10.1: what is handed in stays as it was, with the room behind it; answers are new memory.
func TestMemory(t *testing.T) {
	text := record("some.space.Name", fieldOr("first", dict(`"long"`), `{"z":1,"key":1234567,"a":3}`), field("second", enumOr("Symbols", "OTHER", "ONE", "OTHER")), field("third", union(`"null"`, `"Symbols"`, noSpace(record("N", fieldOr("n", array(`"string"`), `["b","a"]`))))))
	s := made(t, text)
	for i := range s.Nodes {
		n := &s.Nodes[i]
		n.Fields, n.Symbols, n.Kids = roomy(n.Fields, api.AvroField{Name: "x"}), roomy(n.Symbols, "x"), roomy(n.Kids, 99)
		for j := range n.Fields {
			v := &n.Fields[j].Default
			v.List, v.Names = roomy(v.List, api.JSON{Text: "x"}), roomy(v.Names, "x")
		}
	}
	s.Nodes = roomy(s.Nodes, api.AvroNode{Name: "x"})
	seen := show(s)
	var answers []string
	for range 2 {
		n, _ := avrocanon.Normal(s)
		c, _ := avrocanon.Canon(s)
		avrocanon.Finger(s)
		avrocanon.Alike(s, s)
		answers = append(answers, n, c)
	}
	if got := show(s); got != seen {
		t.Errorf("P10.1: a call changes what is handed in: %s; not %s", got, seen)
	}
	if answers[0] != answers[2] || answers[1] != answers[3] {
		t.Errorf("P10.1: a call tells otherwise the next time: %s", answers)
	}
	for i := range answers {
		for j := range i {
			if unsafe.StringData(answers[i]) == unsafe.StringData(answers[j]) {
				t.Errorf("P10.1: two answers share memory: %s", answers[i])
			}
		}
	}
}

// roomy is a list with something in the room behind it.
func roomy[T any](l []T, behind T) []T {
	made := append(append([]T{}, l...), behind, behind)
	return made[:len(l)]
}

// show is a schema as one text, with what stands in the room behind its lists.
func show(s api.Avro) string {
	var b strings.Builder
	var all func(v api.JSON)
	all = func(v api.JSON) {
		b.WriteString(strconv.Itoa(int(v.Kind)) + v.Text + v.Number.Digits + strings.Join(v.Names[:cap(v.Names)], ",") + "[")
		for _, w := range v.List[:cap(v.List)] {
			all(w)
		}
		b.WriteString("]")
	}
	for _, n := range s.Nodes[:cap(s.Nodes)] {
		b.WriteString(strconv.Itoa(int(n.Kind)) + n.Name + n.Default + strconv.Itoa(n.Size) + strings.Join(n.Symbols[:cap(n.Symbols)], ","))
		for _, kid := range n.Kids[:cap(n.Kids)] {
			b.WriteString(" " + strconv.Itoa(kid))
		}
		for _, f := range n.Fields[:cap(n.Fields)] {
			b.WriteString(" " + f.Name + strconv.Itoa(f.Type) + strconv.FormatBool(f.Has))
			all(f.Default)
		}
		b.WriteString(";")
	}
	return b.String()
}
