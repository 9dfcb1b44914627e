package avro_test

import (
	"fmt"
	"slices"
	"strconv"
	"strings"
	"testing"

	"lexicon/api"
	"lexicon/avro"
)

// long is a part of a name of so many bytes.
func long(n int) string { return strings.Repeat("a", n) }

// TestPlainNames: P9.1: each plain name is a new node, as a text and as an object's type, in any space.
func TestPlainNames(t *testing.T) {
	for _, name := range plain {
		makes(t, name, quoted(name))
		makes(t, name, in(quoted(name)))
		makes(t, name, in(in(quoted(name))))
		makes(t, "array[1]; "+name, array(quoted(name)))
		makes(t, "record a."+name+"(f:1 g:2 h:0 i:3); "+name+"; "+name+"; "+name, record("a."+name, field("f", quoted(name)), field("g", quoted(name)), field("h", quoted("a."+name)), field("i", in(quoted(name)))))
		for _, other := range []string{strings.ToUpper(name), strings.ToUpper(name[:1]) + name[1:], name + " ", " " + name, "." + name, name + ".", name[1:], name + name, "a." + name} {
			refuses(t, api.ErrName, quoted(other))
			refuses(t, api.ErrName, in(quoted(other)))
		}
	}
	for _, name := range []string{"", "x", "record", "enum", "fixed", "array", "map", "union", "text", "bool", "error", "list", "date", "*", "\u00e9"} {
		refuses(t, api.ErrName, quoted(name))
		refuses(t, api.ErrName, array(quoted(name)))
		refuses(t, api.ErrName, union(quoted(name)))
		if !slices.Contains([]string{"record", "enum", "fixed", "array", "map"}, name) {
			refuses(t, api.ErrName, in(quoted(name)))
		}
	}
}

// TestNone: P9.1: what is no schema at all.
func TestNone(t *testing.T) {
	for _, text := range []string{"null", "true", "false", "0", "1", "-1.5", "{}", `{"name":"a"}`, `{"Type":"int"}`, `{"type":null}`, `{"type":true}`, `{"type":3}`, `{"type":{}}`, `{"type":{"type":{}}}`, `{"type":[]}`, "[]", "[null]", "[1]", "[{}]", `["int",false]`, `{"type":[{}]}`, `{"types":"int"}`} {
		refuses(t, api.ErrAvro, text)
		refuses(t, api.ErrAvro, array(text))
		refuses(t, api.ErrAvro, dict(text))
		refuses(t, api.ErrAvro, union(`"null"`, text))
		refuses(t, api.ErrAvro, in(text))
		refuses(t, api.ErrAvro, record("R", field("f", text)))
	}
	refuses(t, api.ErrJSON, "")
	refuses(t, api.ErrJSON, "int")
	if s, e := avro.Make(nil); e != api.ErrJSON || s.Nodes != nil {
		t.Errorf("P9.1: Make of nothing: %d", e)
	}
}

// rightNames are full names; wrongNames are none.
func rightNames() []string {
	return []string{"a", "Z", "z", "A", "_", "a1", "A_9z", "_0", "__", "a.b", "a.b.c", "_._", "a0.b1._2", "A.a", "Int", "INT", "record", "enum", "fixed", "array", "map", "union", "a.int", "null.null", "int.a", "a.record", long(128), long(64) + "." + long(63), strings.Repeat("a.", 63) + "ab", "az.AZ", "m0.M9"}
}

func wrongNames() []string {
	return []string{"", ".", "..", "a.", ".a", "a..b", ".a.b", "a.b.", "1", "1a", "9", "a.1", "a.1b", "0.a", "a-b", "a b", " a", "a ", "a.b-c", "a/b", "a@", "[", "`", "a{", "a:", "$", "a$", "a\u00e9", "\u00e9", "a.\u00e9", "a\u0660", "a\x00", "a\n", long(129), long(64) + "." + long(64), strings.Repeat("a.", 64) + "a", "a,b", "a\"b", "a\\b", "null", "boolean", "int", "long", "float", "double", "bytes", "string"}
}

// TestFullNames: P9.1: what names may be, of each named kind, whole, and out of a namespace and a name.
func TestFullNames(t *testing.T) {
	for _, name := range rightNames() {
		q := quoted(name)
		makes(t, "fixed "+name+"(1)", `{"type":"fixed","name":`+q+`,"size":1}`)
		makes(t, "enum "+name+"{A}", `{"type":"enum","name":`+q+`,"symbols":["A"]}`)
		makes(t, "record "+name+"()", `{"type":"record","name":`+q+`,"fields":[]}`)
		if name != "record" && name != "enum" && name != "fixed" && name != "array" && name != "map" {
			makes(t, "record "+name+"(f:0)", record(name, field("f", in(q))))
		}
		if at := strings.LastIndex(name, "."); at >= 0 {
			makes(t, "fixed "+name+"(1)", spaced(fixed(name[at+1:], 1), name[:at]))
			makes(t, "fixed "+name+"(1)", spaced(fixed(name, 1), "x.y"))
			if !slices.Contains(plain, name[at+1:]) {
				makes(t, "record "+name+"(f:0 g:0)", spaced(record(name[at+1:], field("f", quoted(name[at+1:])), field("g", q)), name[:at]))
			}
			makes(t, "record "+name[:at]+".R(f:1 g:1); fixed "+name+"(1)", record(name[:at]+".R", field("f", fixed(name[at+1:], 1)), field("g", q)))
		} else {
			makes(t, "fixed "+name+"(1)", spaced(fixed(name, 1), ""))
		}
	}
	for _, name := range wrongNames() {
		q := strconv.QuoteToASCII(name)
		if strings.Contains(name, "\x00") {
			q = `"a\u0000"`
		}
		refuses(t, api.ErrName, `{"type":"fixed","name":`+q+`,"size":1}`)
		refuses(t, api.ErrName, `{"type":"enum","name":`+q+`,"symbols":["A"]}`)
		refuses(t, api.ErrName, `{"type":"record","name":`+q+`,"fields":[]}`)
		refuses(t, api.ErrName, `{"type":"fixed","namespace":"","name":`+q+`,"size":1}`)
		if !slices.Contains(plain, name) {
			refuses(t, api.ErrName, `{"type":"fixed","name":`+q+`,"size":1,"namespace":"x"}`)
			refuses(t, api.ErrName, record("x.R", field("f", `{"type":"fixed","name":`+q+`,"size":1}`)))
		} else {
			makes(t, "fixed x."+name+"(1)", spaced(fixed(name, 1), "x"))
		}
		if name != "" && !slices.Contains(plain, name) {
			refuses(t, api.ErrName, `{"type":"fixed","namespace":`+q+`,"size":1,"name":"x"}`)
		}
	}
	makes(t, "fixed int.x(1)", spaced(fixed("x", 1), "int"))
	makes(t, "fixed "+long(64)+"."+long(63)+"(1)", spaced(fixed(long(63), 1), long(64)))
	refuses(t, api.ErrName, spaced(fixed(long(64), 1), long(64)))
	makes(t, "fixed "+long(128)+"(1)", spaced(fixed(long(128), 1), ""))
	makes(t, "fixed a."+long(126)+"(1)", spaced(fixed("a."+long(126), 1), long(64)))
	makes(t, "record "+long(64)+".R(f:1); fixed "+long(64)+"."+long(63)+"(1)", record(long(64)+".R", field("f", fixed(long(63), 1))))
	refuses(t, api.ErrName, record(long(64)+".R", field("f", fixed(long(64), 1))))
	for c := range 256 {
		name := "a" + string(rune(c))
		q := fmt.Sprintf(`"a\u%04x"`, c)
		if part.MatchString(name) {
			makes(t, "fixed "+name+"(1)", `{"type":"fixed","name":`+q+`,"size":1}`)
		} else {
			refuses(t, api.ErrName, `{"type":"fixed","name":`+q+`,"size":1}`)
		}
		if name = name[1:]; part.MatchString(name) {
			makes(t, "fixed "+name+"(1)", `{"type":"fixed","name":"`+name+`","size":1}`)
		} else {
			refuses(t, api.ErrName, `{"type":"fixed","name":`+fmt.Sprintf(`"\u%04x"`, c)+`,"size":1}`)
		}
	}
}

// TestSpaces: P9.1: where names are sought: in the space of the record around, or by themselves.
func TestSpaces(t *testing.T) {
	f := fixed("F", 1)
	makes(t, "record a.R(f:1 g:1 h:1); fixed a.F(1)", record("a.R", field("f", f), field("g", `"F"`), field("h", `"a.F"`)))
	makes(t, "record R(f:1 g:1); fixed F(1)", record("R", field("f", f), field("g", `"F"`)))
	makes(t, "record a.R(f:1); record b.S(g:2 h:0 i:2); fixed b.F(1)", record("a.R", field("f", record("b.S", field("g", f), field("h", `"a.R"`), field("i", `"F"`)))))
	makes(t, "record a.R(f:1 g:2 h:2); record b.S(); fixed a.F(1)", record("a.R", field("f", record("b.S")), field("g", f), field("h", `"F"`)))
	refuses(t, api.ErrName, record("a.R", field("f", record("b.S", field("g", f))), field("h", `"F"`)))
	refuses(t, api.ErrName, record("a.R", field("f", record("b.S", field("g", `"R"`)))))
	makes(t, "record a.b.R(f:1 g:2); array[0]; map[0]", record("a.b.R", field("f", array(`"R"`)), field("g", dict(`"a.b.R"`))))
	refuses(t, api.ErrName, record("a.b.R", field("f", `"b.R"`)))
	refuses(t, api.ErrName, record("a.R", field("f", `".R"`)))
	refuses(t, api.ErrName, record("R", field("f", `".R"`)))
	refuses(t, api.ErrName, record("a.R", field("f", `""`)))
	refuses(t, api.ErrName, record("a.R", field("f", `"."`)))
	makes(t, "union[1 3]; record a.R(f:2); null; fixed F(1)", union(record("a.R", field("f", `"null"`)), f))
	refuses(t, api.ErrName, union(record("a.R", field("f", f)), array(`"F"`)))
	makes(t, "union[1 3]; record a.R(f:2); fixed a.F(1); array[2]", union(record("a.R", field("f", f)), array(`"a.F"`)))
	makes(t, "record a.R(f:1 g:2); array[2]; fixed a.F(1)", record("a.R", field("f", array(f)), field("g", `"F"`)))
	makes(t, "record a.R(f:1 g:3); record S(x:2 y:1); fixed F(1); fixed a.F(1)", record("a.R", field("f", spaced(record("S", field("x", f), field("y", `"S"`)), "")), field("g", f)))
	makes(t, "record a.R(f:1 g:2 h:3); record a.S(x:2); fixed a.F(1); map[2]", record("a.R", field("f", record("S", field("x", f))), field("g", `"F"`), field("h", dict(`"F"`))))
	refuses(t, api.ErrName, record("a.R", field("f", spaced(f, "")), field("g", `"F"`)))
	refuses(t, api.ErrName, record("a.R", field("f", spaced(f, "b")), field("g", `"F"`)))
	makes(t, "record a.R(f:1 g:1); fixed b.F(1)", record("a.R", field("f", spaced(f, "b")), field("g", `"b.F"`)))
	makes(t, "record a.R(f:1 g:1); fixed a.F(1)", record("a.R", field("f", spaced(f, "a")), field("g", `"F"`)))
	makes(t, "record a.R(f:1); fixed b.F(1)", record("a.R", field("f", spaced(fixed("b.F", 1), "c"))))
	makes(t, "record a.R(f:1); enum E{F}", record("a.R", field("f", spaced(enum("E", "F"), ""))))
	refuses(t, api.ErrName, union(enum("E", "F"), `"F"`))
	refuses(t, api.ErrName, record("R", field("f", `"int"`), field("g", `"f"`)))
	makes(t, "array[1]; fixed F(1)", with(array(f), `"namespace":"a"`))
	makes(t, "map[1]; fixed F(1)", with(dict(f), `"namespace":"a"`))
	makes(t, "fixed F(1)", with(in(f), `"namespace":"a"`))
	for _, space := range []string{"null", "true", "1", "[]", "{}", `["a"]`, `{"a":"b"}`} {
		refuses(t, api.ErrAvro, with(f, `"namespace":`+space))
		refuses(t, api.ErrAvro, with(enum("E", "A"), `"namespace":`+space))
		refuses(t, api.ErrAvro, with(record("R"), `"namespace":`+space))
		refuses(t, api.ErrAvro, with(fixed("1", 1), `"namespace":`+space))
		refuses(t, api.ErrAvro, with(fixed("", 1), `"namespace":`+space))
		makes(t, "fixed a.F(1)", with(fixed("a.F", 1), `"namespace":`+space))
		refuses(t, api.ErrName, with(fixed("a.", 1), `"namespace":`+space))
	}
}

// TestDefined: P9.1: a name is defined from where it is read, once.
func TestDefined(t *testing.T) {
	f := fixed("F", 1)
	refuses(t, api.ErrName, union(`"F"`, f))
	refuses(t, api.ErrName, record("R", field("f", `"F"`), field("g", f)))
	refuses(t, api.ErrName, record("R", field("f", record("S", field("g", `"F"`))), field("h", f)))
	refuses(t, api.ErrName, array(`"F"`))
	makes(t, "record R(f:1); union[2 3 4]; null; array[0]; map[0]", record("R", field("f", union(`"null"`, array(`"R"`), dict(`"R"`)))))
	makes(t, "record R(f:0)", record("R", field("f", `"R"`)))
	makes(t, "record R(f:1); record S(g:0 h:1)", record("R", field("f", record("S", field("g", `"R"`), field("h", `"S"`)))))
	for _, first := range []string{f, enum("F", "A"), record("F")} {
		for _, second := range []string{f, enum("F", "A"), record("F"), fixed("F", 2)} {
			refuses(t, api.ErrName, union(first, second))
			refuses(t, api.ErrName, record("R", field("f", first), field("g", second)))
			refuses(t, api.ErrName, record("F", field("g", second)))
			refuses(t, api.ErrName, union(first, spaced(second, "")))
			refuses(t, api.ErrName, record("a.R", field("f", first), field("g", spaced(second, "a"))))
			refuses(t, api.ErrName, second, imports("F", first)...)
			takes(t, union(first, spaced(second, "a")))
			takes(t, record("a.R", field("f", first), field("g", spaced(second, ""))))
		}
	}
	refuses(t, api.ErrName, record("a.R", field("f", fixed("R", 1))))
	refuses(t, api.ErrName, record("a.R", field("f", fixed("a.R", 1))))
	makes(t, "record a.R(f:1); fixed R(1)", record("a.R", field("f", spaced(fixed("R", 1), ""))))
	makes(t, "record R(f:1); fixed a.R(1)", record("R", field("f", fixed("a.R", 1))))
	makes(t, "record F(f:1 g:2); fixed f(1); fixed FF(1)", record("F", field("f", fixed("f", 1)), field("g", fixed("FF", 1))))
	makes(t, "record a.R(f:1); record a.R.S(g:0)", record("a.R", field("f", record("a.R.S", field("g", `"a.R"`)))))
}

// TestUnions: P9.1: branches in their order; not none of them, no unions, no two of one kind, or of one Name.
func TestUnions(t *testing.T) {
	all := []string{`"null"`, `"boolean"`, `"int"`, `"long"`, `"float"`, `"double"`, `"bytes"`, `"string"`, record("R"), enum("E", "A"), fixed("F", 1), array(`"int"`), dict(`"int"`)}
	makes(t, "union[1 2 3 4 5 6 7 8 9 10 11 12 14]; null; boolean; int; long; float; double; bytes; string; record R(); enum E{A}; fixed F(1); array[13]; int; map[15]; int", union(all...))
	for i, text := range all {
		takes(t, union(text))
		for j, other := range all {
			if i != j {
				takes(t, union(text, other))
				takes(t, union(other, in(text)))
			}
		}
		refuses(t, api.ErrAvro, union(append(slices.Clone(all), `["null"]`)...))
	}
	for _, name := range plain {
		refuses(t, api.ErrAvro, union(quoted(name), quoted(name)))
		refuses(t, api.ErrAvro, union(quoted(name), `"null"`, "{}", in(quoted(name))))
		refuses(t, api.ErrAvro, union(in(quoted(name)), record("R"), quoted(name)))
	}
	refuses(t, api.ErrAvro, union())
	refuses(t, api.ErrAvro, array(union()))
	refuses(t, api.ErrAvro, union(union(`"null"`)))
	refuses(t, api.ErrAvro, union(`"int"`, union(`"null"`)))
	refuses(t, api.ErrAvro, union(in(union(`"null"`)), `"int"`))
	refuses(t, api.ErrAvro, union(`"int"`, in(in(union(`"null"`)))))
	makes(t, "union[1 3]; array[2]; null; map[4]; null", union(array(`"null"`), dict(`"null"`)))
	makes(t, "union[1 4]; array[2]; union[3]; null; map[5]; union[6]; null", union(array(union(`"null"`)), dict(union(`"null"`))))
	refuses(t, api.ErrAvro, union(array(`"null"`), array(`"int"`)))
	refuses(t, api.ErrAvro, union(dict(`"null"`), `"null"`, dict(`"int"`)))
	makes(t, "union[1 2 3 4 5 6]; record a.R(); record R(); enum a.E{A}; enum E{A}; fixed a.F(1); fixed F(1)", union(record("a.R"), record("R"), enum("a.E", "A"), enum("E", "A"), fixed("a.F", 1), fixed("F", 1)))
	for _, text := range []string{record("R"), enum("R", "A"), fixed("R", 1)} {
		refuses(t, api.ErrAvro, union(text, `"R"`))
		refuses(t, api.ErrAvro, union(text, `"null"`, in(`"R"`)))
		refuses(t, api.ErrAvro, union(spaced(text, "a"), `"a.R"`))
		refuses(t, api.ErrAvro, union(`"R"`, `"R"`), imports("R", text)...)
		takes(t, union(text, fixed("r", 1)))
	}
	makes(t, "record R(f:1 g:4); union[0 2 3]; fixed F(1); null; union[2 0]", record("R", field("f", union(`"R"`, fixed("F", 1), `"null"`)), field("g", union(`"F"`, `"R"`))))
	refuses(t, api.ErrAvro, record("R", field("f", union(`"R"`, `"R"`))))
	refuses(t, api.ErrAvro, union(record("R", field("f", union(`"null"`, `"R"`))), `"R"`))
	refuses(t, api.ErrAvro, record("a.R", field("f", union(`"R"`, `"a.R"`))))
	var many []string
	for i := range 255 {
		many = append(many, fixed("F"+strconv.Itoa(i), 1))
	}
	if s := takes(t, union(many...)); len(s.Nodes) != 256 || len(s.Nodes[0].Kids) != 255 {
		t.Errorf("P9.1: a union of 255: %s", show(s))
	}
	refuses(t, api.ErrAvro, union(append(many, `"null"`)...))
	refuses(t, api.ErrName, union(append(many, `"null"`, `"F255"`)...))
}

// TestRecords: P9.1: a record's fields, in their order, each with its name and its type.
func TestRecords(t *testing.T) {
	makes(t, "record R()", record("R"))
	makes(t, "record R(b:1 a:2 _9:4); int; array[3]; null; map[5]; bytes", record("R", field("b", `"int"`), field("a", array(`"null"`)), field("_9", dict(`"bytes"`))))
	makes(t, "record R(a:1 A:2); int; int", record("R", field("a", `"int"`), field("A", `"int"`)))
	makes(t, "record R(a:1); record S(a:2); int", record("R", field("a", record("S", field("a", `"int"`)))))
	makes(t, "record R(R:0 int:0 null:1); null", record("R", field("R", `"R"`), field("int", `"R"`), field("null", `"null"`)))
	for _, fields := range []string{"", `"fields":null`, `"fields":{}`, `"fields":"a"`, `"fields":1`, `"fields":true`, `"fields":{"a":"int"}`, `"Fields":[]`, `"fields":[1]`, `"fields":["a"]`, `"fields":[null]`, `"fields":[[]]`, `"fields":[["a","int"]]`, `"fields":[{}]`, `"fields":[{"name":"a"}]`, `"fields":[{"type":"int"}]`, `"fields":[{"name":"a","type":"int"},3]`} {
		refuses(t, api.ErrAvro, strings.ReplaceAll(`{"type":"record","name":"R",`+fields+"}", ",}", "}"))
	}
	for _, name := range []string{"null", "true", "1", "[]", "{}", `["a"]`} {
		refuses(t, api.ErrAvro, record("R", `{"name":`+name+`,"type":"int"}`))
		refuses(t, api.ErrAvro, `{"type":"record","name":`+name+`,"fields":[]}`)
		refuses(t, api.ErrAvro, `{"type":"fixed","name":`+name+`,"size":1}`)
		refuses(t, api.ErrAvro, `{"type":"enum","name":`+name+`,"symbols":["A"]}`)
	}
	for _, name := range wrongNames() {
		if slices.Contains(plain, name) {
			makes(t, "record R("+name+":1); null", record("R", field(name, `"null"`)))
		} else if !strings.ContainsAny(name, "\\\"\x00\n") {
			refuses(t, api.ErrName, record("R", field(name, `"int"`)))
			refuses(t, api.ErrName, record("R", field("a", `"int"`), field(name, `"int"`)))
			refuses(t, api.ErrName, enum("E", name))
			refuses(t, api.ErrName, enum("E", "A", name))
		}
	}
	for _, name := range rightNames() {
		if strings.Contains(name, ".") {
			refuses(t, api.ErrName, record("R", field(name, `"int"`)))
			refuses(t, api.ErrName, enum("E", name))
		} else {
			makes(t, "record R("+name+":1); int", record("R", field(name, `"int"`)))
			makes(t, "enum E{"+name+" other}", enum("E", name, "other"))
			refuses(t, api.ErrName, record("R", field(name, `"int"`), field("x", `"int"`), field(name, `"long"`)))
			refuses(t, api.ErrName, enum("E", name, "x", name))
		}
	}
	var fields []string
	for i := range 256 {
		fields = append(fields, field("f"+strconv.Itoa(i), `"R"`))
	}
	s := takes(t, record("R", fields...))
	if len(s.Nodes) != 1 || len(s.Nodes[0].Fields) != 256 || s.Nodes[0].Fields[255].Name != "f255" {
		t.Errorf("P9.1: a record of 256 fields: %s", show(s))
	}
	refuses(t, api.ErrAvro, record("R", append(fields, field("f256", `"R"`))...))
	refuses(t, api.ErrAvro, record("R", append(fields, field("f256", `"x"`))...))
	fields[0] = field("", `"x"`)
	refuses(t, api.ErrName, record("R", fields...))
	refuses(t, api.ErrAvro, record("R", append(fields, field("f256", `"R"`))...))
}

// TestEnums: P9.1: an enum's symbols, in their order, and its default.
func TestEnums(t *testing.T) {
	makes(t, "enum E{B A a}", enum("E", "B", "A", "a"))
	makes(t, "enum a.E{E a null}", enum("a.E", "E", "a", "null"))
	for _, symbols := range []string{"", `"symbols":[]`, `"symbols":null`, `"symbols":"A"`, `"symbols":{}`, `"symbols":{"A":"B"}`, `"symbols":1`, `"symbols":[1]`, `"symbols":[null]`, `"symbols":["A",null]`, `"symbols":[["A"]]`, `"symbols":[{}]`, `"Symbols":["A"]`, `"fields":["A"]`} {
		refuses(t, api.ErrAvro, strings.ReplaceAll(`{"type":"enum","name":"E",`+symbols+"}", ",}", "}"))
		refuses(t, api.ErrAvro, strings.ReplaceAll(`{"type":"enum","name":"E","default":"A",`+symbols+"}", ",}", "}"))
	}
	var symbols []string
	for i := range 256 {
		symbols = append(symbols, "S"+strconv.Itoa(i))
	}
	s := takes(t, with(enum("E", symbols...), `"default":"S255"`))
	if n := s.Nodes[0]; !slices.Equal(n.Symbols, symbols) || !n.Has || n.Default != "S255" {
		t.Errorf("P9.1: an enum of 256 symbols: %s", show(s))
	}
	refuses(t, api.ErrAvro, enum("E", append(symbols, "S256")...))
	refuses(t, api.ErrAvro, enum("E", append(symbols, "")...))
	refuses(t, api.ErrName, enum("E", append(symbols[:255:255], "S0")...))
	makes(t, "enum E{A B}=A", with(enum("E", "A", "B"), `"default":"A"`))
	makes(t, "enum E{A B}=B", with(enum("E", "A", "B"), `"default":"B"`))
	for _, or := range []string{`"C"`, `""`, `"a"`, `"A "`, `"AB"`, "null", "true", "0", "1", `["A"]`, "[]", `{"A":"A"}`, "{}"} {
		refuses(t, api.ErrDefault, with(enum("E", "A", "B"), `"default":`+or))
	}
}

// TestFixed: P9.1: a fixed one's size.
func TestFixed(t *testing.T) {
	for text, size := range map[string]int{"0": 0, "1": 1, "65536": 65536, "65535": 65535, "-0": 0, "0.0": 0, "1.0": 1, "1e1": 10, "6.5536e4": 65536, "10e-1": 1, "0e9999": 0, "-0.0e0": 0} {
		makes(t, "fixed F("+strconv.Itoa(size)+")", `{"type":"fixed","name":"F","size":`+text+`}`)
	}
	for _, text := range []string{"-1", "65537", "0.5", "1.5", "-0.1", "1e-1", "65536.5", "1e5", "1e1000", "-1e1000", "9223372036854775808", "18446744073709551616", "4294967296", "18446744073709551617", "null", "true", `"1"`, `""`, "[]", "[1]", "{}", `{"size":1}`} {
		refuses(t, api.ErrAvro, `{"type":"fixed","name":"F","size":`+text+`}`)
	}
	refuses(t, api.ErrAvro, `{"type":"fixed","name":"F"}`)
	refuses(t, api.ErrAvro, `{"type":"fixed","name":"F","Size":1}`)
	refuses(t, api.ErrAvro, `{"type":"fixed","size":1}`)
	refuses(t, api.ErrAvro, `{"type":"enum","symbols":["A"]}`)
	refuses(t, api.ErrAvro, `{"type":"record","fields":[]}`)
}

// TestMany: P9.1: arrays and maps, of what they are.
func TestMany(t *testing.T) {
	makes(t, "array[1]; int", array(`"int"`))
	makes(t, "map[1]; int", dict(`"int"`))
	makes(t, "array[1]; map[2]; array[3]; union[4 5]; null; array[6]; map[7]; bytes", array(dict(array(union(`"null"`, array(dict(`"bytes"`)))))))
	refuses(t, api.ErrAvro, `{"type":"array"}`)
	refuses(t, api.ErrAvro, `{"type":"map"}`)
	refuses(t, api.ErrAvro, `{"type":"array","values":"int"}`)
	refuses(t, api.ErrAvro, `{"type":"map","items":"int"}`)
	refuses(t, api.ErrAvro, array("null"))
	refuses(t, api.ErrAvro, dict("1"))
	refuses(t, api.ErrName, array(`"array"`))
	refuses(t, api.ErrName, dict(`"R"`))
	makes(t, "record R(f:1 g:2); array[0]; map[0]", record("R", field("f", array(`"R"`)), field("g", dict(in(`"R"`)))))
}

// TestObjects: P9.1: an object is read by its type; what is none of the five stands in its place.
func TestObjects(t *testing.T) {
	makes(t, "union[1 2]; null; int", in(union(`"null"`, in(`"int"`))))
	makes(t, "fixed F(1)", in(fixed("F", 1)))
	makes(t, "fixed F(1)", in(in(fixed("F", 1))))
	makes(t, "array[1]; fixed F(1)", array(in(fixed("F", 1))))
	makes(t, "record R(f:1 g:1); fixed F(1)", record("R", field("f", in(fixed("F", 1))), field("g", in(in(`"F"`)))))
	makes(t, "record a.R(f:1); fixed a.F(1)", record("a.R", field("f", with(in(fixed("F", 1)), `"namespace":"b"`))))
	makes(t, "record record(f:0 g:1); fixed fixed(1)", record("record", field("f", `"record"`), field("g", fixed("fixed", 1))))
	refuses(t, api.ErrAvro, record("record", field("f", in(`"record"`))))
	makes(t, "int", with(in(`"int"`), `"items":5,"fields":{},"symbols":[],"size":-1,"name":"","namespace":1,"default":[],"values":null,"logicalType":"date"`))
	makes(t, "array[1]; int", with(array(`"int"`), `"name":1,"fields":{},"symbols":[],"size":-1,"namespace":"9","default":5,"values":"x","doc":[]`))
	makes(t, "map[1]; int", with(dict(`"int"`), `"name":1,"fields":{},"symbols":[],"size":-1,"namespace":"9","default":5,"items":"x"`))
	makes(t, "fixed F(1)", with(fixed("F", 1), `"fields":{},"symbols":[],"default":5,"items":"x","values":"x","aliases":["G",1,""],"doc":null,"order":3`))
	makes(t, "enum E{A}", with(enum("E", "A"), `"fields":{},"size":-1,"items":"x","values":"x","aliases":["G"],"doc":"d"`))
	makes(t, "record R(f:1); int", with(record("R", with(field("f", `"int"`), `"doc":1,"order":"up","aliases":["R"],"namespace":3,"items":"x","size":-1,"has":true`)), `"symbols":[],"size":-1,"items":"x","values":"x","default":1,"aliases":["G"],"doc":"d"`))
	refuses(t, api.ErrName, union(with(fixed("F", 1), `"aliases":["G"]`), `"G"`))
	refuses(t, api.ErrName, with(in(`"Record"`), `"name":"R","fields":[]`))
	refuses(t, api.ErrName, record("R", `{"name":"f","type":"array","items":"int"}`))
	refuses(t, api.ErrName, record("R", `{"name":"f","type":"fixed","size":1}`))
	refuses(t, api.ErrTwice, `{"type":"int","doc":1,"doc":2}`)
	refuses(t, api.ErrRange, `{"type":"int","doc":1e1001}`)
	refuses(t, api.ErrAlone, `{"type":"int","doc":"\ud800"}`)
}

// nest is a text in so many others.
func nest(text string, depth int, how func(string) string) string {
	for range depth {
		text = how(text)
	}
	return text
}

// TestDepth: P9.1: schemas in MaxDepth others, and in one more, which nests too deep to be JSON.
func TestDepth(t *testing.T) {
	for name, how := range map[string]func(string) string{"in": in, "array": array, "dict": dict, "both": func(text string) string { return array(in(text)) }} {
		deep := 64 / strings.Count(how(""), "{")
		s := takes(t, nest(`"int"`, deep, how))
		if want := 1 + deep*map[string]int{"in": 0, "array": 1, "dict": 1, "both": 1}[name]; len(s.Nodes) != want {
			t.Errorf("P9.1: %s: %s", name, show(s))
		}
		refuses(t, api.ErrDeep, nest(`"int"`, deep+1, how))
		refuses(t, api.ErrDeep, nest(`"x"`, deep+1, how))
		refuses(t, api.ErrName, nest(`"x"`, deep, how))
		refuses(t, api.ErrAvro, nest(`[]`, deep-1, how))
		refuses(t, api.ErrDeep, nest(`"int"`, 1000, how))
	}
	refuses(t, api.ErrAvro, nest(`"int"`, 64, func(text string) string { return union(text) }))
	refuses(t, api.ErrDeep, nest(`"int"`, 65, func(text string) string { return union(text) }))
	refuses(t, api.ErrDeep, array(with(`{"type":"int"}`, `"doc":`+nest("1", 63, func(text string) string { return union(text) }))))
	s := takes(t, chain(2, 100)[99].Text, chain(2, 99)...)
	if len(s.Nodes) != 202 {
		t.Errorf("P9.1: imports that lead to one another: %s", show(s))
	}
}

// chain are so many imports, each a record of a list of the one ahead of it, of so many nodes more.
func chain(more, many int) []api.Import {
	l := imports("R0", record("R0", field("f", nest(`"int"`, more, array))))
	for i := range many - 1 {
		name := "R" + strconv.Itoa(i+1)
		l = append(l, imports(name, record(name, field("f", nest(quoted("R"+strconv.Itoa(i)), more-1, array))))...)
	}
	return l
}

// TestTooMany: P9.1: MaxTypes nodes, and one more, which is known behind all that is met when the text is read.
func TestTooMany(t *testing.T) {
	var fields []string
	for i := range 255 {
		fields = append(fields, field("f"+strconv.Itoa(i), `"int"`))
	}
	if s := takes(t, record("R", fields...)); len(s.Nodes) != 256 {
		t.Errorf("P9.1: 256 nodes: %s", show(s))
	}
	more := append(slices.Clone(fields), field("f255", `"int"`))
	refuses(t, api.ErrAvro, record("R", more...))
	if s := takes(t, record("R", append(fields, field("f255", `"R"`))...)); len(s.Nodes) != 256 {
		t.Errorf("P9.1: 256 nodes: %s", show(s))
	}
	more[255] = fieldOr("f255", `"int"`, `"no"`)
	refuses(t, api.ErrAvro, record("R", more...))
	more[3] = fieldOr("f3", `"int"`, `"no"`)
	refuses(t, api.ErrAvro, record("R", more...))
	refuses(t, api.ErrDefault, record("R", more[:255]...))
	more[255] = field("f255", `"x"`)
	refuses(t, api.ErrName, record("R", more...))
	more[255] = field("f255", with(enum("E", "A"), `"default":"B"`))
	refuses(t, api.ErrDefault, record("R", more...))
	refuses(t, api.ErrAvro, array(record("R", fields...)))
	big := imports("R", record("R", fields...))
	if s := takes(t, `"R"`, big...); len(s.Nodes) != 256 {
		t.Errorf("P9.1: 256 nodes: %s", show(s))
	}
	makes(t, "int", `"int"`, big...)
	refuses(t, api.ErrAvro, array(`"R"`), big...)
	refuses(t, api.ErrAvro, `"int"`, append(big, imports("S", record("S", field("f", `"R"`)))...)...)
	refuses(t, api.ErrAvro, `"int"`, append(big, imports("x", record("S", field("f", `"R"`)))...)...)
	makes(t, "record S(f:1); int", `"S"`, append(big, imports("S", record("S", field("f", `"int"`)))...)...)
	half := imports("A", record("A", fields[:127]...), "B", record("B", fields[:127]...))
	if s := takes(t, `"A"`, half...); len(s.Nodes) != 128 {
		t.Errorf("P9.1: 128 nodes: %s", show(s))
	}
	refuses(t, api.ErrAvro, union(`"A"`, `"B"`), half...)
	half[1].Text = record("B", fields[:126]...)
	if s := takes(t, union(`"A"`, `"B"`), half...); len(s.Nodes) != 256 {
		t.Errorf("P9.1: 256 nodes: %s", show(s))
	}
	if s := takes(t, record("C", field("a", `"B"`), field("b", `"A"`), field("c", `"B"`)), half...); len(s.Nodes) != 256 {
		t.Errorf("P9.1: 256 nodes: %s", show(s))
	}
	refuses(t, api.ErrAvro, array(union(`"B"`, `"A"`)), half...)
	refuses(t, api.ErrAvro, union(slices.Repeat([]string{in(`"int"`)}, 50_000)...))
	var names []string
	for i := range 20_000 {
		names = append(names, fixed("F"+strconv.Itoa(i), 1))
	}
	refuses(t, api.ErrAvro, union(names...))
	refuses(t, api.ErrName, union(append(names, fixed("F0", 1))...))
	refuses(t, api.ErrAvro, union(append(names, `"F19999"`)...))
	l := chain(2, 128)
	if s := takes(t, l[126].Text, l[:126]...); len(s.Nodes) != 256 {
		t.Errorf("P9.1: 256 nodes: %s", show(s))
	}
	takes(t, `"int"`, l[:127]...)
	refuses(t, api.ErrAvro, `"int"`, l...)
	refuses(t, api.ErrAvro, l[127].Text, l[:127]...)
}
