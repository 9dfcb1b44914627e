package avro_test

import (
	"slices"
	"strconv"
	"testing"

	"lexicon/api"
)

// fault is a text with one error that is met when it is read.
type fault struct {
	text string
	e    api.Errno
}

// faults are such texts, none of which defines a name ahead of its error that another one defines, too.
func faults() []fault {
	return []fault{
		{`5`, api.ErrAvro}, {`{}`, api.ErrAvro}, {`[]`, api.ErrAvro}, {`["int","int"]`, api.ErrAvro}, {`["null",["int"]]`, api.ErrAvro}, {`{"type":"array"}`, api.ErrAvro}, {`{"type":"map"}`, api.ErrAvro},
		{`{"type":"fixed","size":1}`, api.ErrAvro}, {fixed("F1", -1), api.ErrAvro}, {`{"type":"fixed","name":"F2"}`, api.ErrAvro}, {with(fixed("F3", 1), `"namespace":1`), api.ErrAvro},
		{`{"type":"enum","name":"E1"}`, api.ErrAvro}, {`{"type":"enum","name":"E2","symbols":[]}`, api.ErrAvro}, {`{"type":"enum","name":"E3","symbols":["A",1]}`, api.ErrAvro},
		{`{"type":"record","name":"R1"}`, api.ErrAvro}, {record("R2", "1"), api.ErrAvro}, {record("R3", `{"type":"int"}`), api.ErrAvro}, {record("R4", `{"name":"a"}`), api.ErrAvro},
		{`"x"`, api.ErrName}, {`{"type":"x"}`, api.ErrName}, {`".int"`, api.ErrName}, {fixed("1", 1), api.ErrName}, {fixed("int", 1), api.ErrName}, {fixed(long(129), 1), api.ErrName}, {spaced(fixed("F4", 1), "."), api.ErrName},
		{enum("", "A"), api.ErrName}, {enum("E4", "A", "A"), api.ErrName}, {enum("E5", "1"), api.ErrName}, {record("a.", "1"), api.ErrName}, {record("R5", field("", `"int"`)), api.ErrName}, {record("R6", field("a", `"int"`), field("a", `"int"`)), api.ErrName},
		{record("R7", field("a", fixed("R7", 1))), api.ErrName}, {array(`"x"`), api.ErrName}, {dict(`"x"`), api.ErrName},
		{with(enum("E6", "A"), `"default":"B"`), api.ErrDefault}, {with(enum("E7", "A"), `"default":null`), api.ErrDefault},
	}
}

// TestFirstMet: P9.1: of two errors that are met when a text is read the first one, whatever they are.
func TestFirstMet(t *testing.T) {
	for i, f := range faults() {
		refuses(t, f.e, f.text)
		for j, g := range faults() {
			if i == j {
				continue
			}
			refuses(t, f.e, union(f.text, g.text))
			refuses(t, f.e, union(`"null"`, array(f.text), g.text))
			refuses(t, f.e, record("R", field("f", f.text), field("g", g.text)))
			refuses(t, f.e, record("R", field("f", record("S", field("f", `"int"`), field("g", f.text))), field("1", g.text)))
			refuses(t, f.e, record("R", field("f", dict(f.text)), "1", field("g", g.text)))
			refuses(t, g.e, with(with(array(g.text), `"values":`+f.text), `"doc":`+f.text))
		}
	}
}

// TestOrderWithin: P9.1: an object's type is met first; of a named one its name, then fields, symbols, size; of a field its name, then its type; wherever these members stand.
func TestOrderWithin(t *testing.T) {
	for text, e := range map[string]api.Errno{
		`{"name":"1","size":-1}`:                                            api.ErrAvro,
		`{"name":1,"type":"x"}`:                                             api.ErrName,
		`{"size":-1,"name":"1","type":"fixed"}`:                             api.ErrName,
		`{"size":-1,"name":"F","type":"fixed","namespace":"1"}`:             api.ErrName,
		`{"namespace":"1","name":null,"type":"fixed","size":-1}`:            api.ErrAvro,
		`{"namespace":1,"name":"1","type":"fixed","size":1}`:                api.ErrAvro,
		`{"namespace":1,"name":"1.","type":"fixed","size":-1}`:              api.ErrName,
		`{"namespace":"1","name":"a.b","type":"fixed","size":-1}`:           api.ErrAvro,
		`{"symbols":[1],"name":"1","type":"enum"}`:                          api.ErrName,
		`{"symbols":["1"],"name":1,"type":"enum"}`:                          api.ErrAvro,
		`{"default":"B","symbols":["1"],"name":"E","type":"enum"}`:          api.ErrName,
		`{"default":"B","symbols":[],"name":"E","type":"enum"}`:             api.ErrAvro,
		`{"default":"B","symbols":["A",1],"name":"E","type":"enum"}`:        api.ErrAvro,
		`{"default":"B","symbols":["A","1"],"name":"E","type":"enum"}`:      api.ErrName,
		`{"default":"B","symbols":["A","1",1],"name":"E","type":"enum"}`:    api.ErrName,
		`{"default":"B","symbols":["A",1,"1"],"name":"E","type":"enum"}`:    api.ErrAvro,
		`{"default":"B","symbols":["A"],"name":"1","type":"enum"}`:          api.ErrName,
		`{"default":"B","symbols":["A"],"name":5,"type":"enum"}`:            api.ErrAvro,
		`{"fields":5,"name":"1","type":"record"}`:                           api.ErrName,
		`{"fields":[{"type":"x","name":"1"}],"name":1,"type":"record"}`:     api.ErrAvro,
		`{"fields":[{"type":5,"name":"1"}],"name":"R","type":"record"}`:     api.ErrName,
		`{"fields":[{"type":"x","name":1}],"name":"R","type":"record"}`:     api.ErrAvro,
		`{"fields":[{"name":"1"}],"name":"R","type":"record"}`:              api.ErrName,
		`{"fields":[{"type":"x"}],"name":"R","type":"record"}`:              api.ErrAvro,
		`{"fields":[{"name":"a","type":"x"},5],"name":"R","type":"record"}`: api.ErrName,
		`{"fields":[5,{"name":"a","type":"x"}],"name":"R","type":"record"}`: api.ErrAvro,
		`{"fields":[{"name":"1"},{"name":"a"}],"name":"R","type":"record"}`: api.ErrName,
		`{"fields":[{"name":"a"},{"name":"1"}],"name":"R","type":"record"}`: api.ErrAvro,
		`{"type":{"type":"x","name":1},"name":1,"fields":5}`:                api.ErrName,
		`{"type":[{"type":"record","name":"1"},5]}`:                         api.ErrName,
		`["x",5]`:           api.ErrName,
		`[5,"x"]`:           api.ErrAvro,
		`["int","int","x"]`: api.ErrAvro,
		`["int","x","int"]`: api.ErrName,
		`[["int"],"x"]`:     api.ErrAvro,
		`["x",["int"]]`:     api.ErrName,
		`[{"type":"array","items":"int"},{"type":"array","items":"null"},"x"]`: api.ErrAvro,
	} {
		refuses(t, e, text)
	}
	symbols, fields := slices.Repeat([]string{"1"}, 257), slices.Repeat([]string{field("1", `"x"`)}, 257)
	refuses(t, api.ErrAvro, enum("E", symbols...))
	refuses(t, api.ErrName, enum("E", symbols[1:]...))
	refuses(t, api.ErrName, enum("1", symbols...))
	refuses(t, api.ErrAvro, record("R", fields...))
	refuses(t, api.ErrName, record("R", fields[1:]...))
	refuses(t, api.ErrName, record("1", fields...))
	refuses(t, api.ErrName, union(`"x"`, record("R", fields...)))
	refuses(t, api.ErrAvro, union(record("R", fields...), `"x"`))
}

// TestStages: P9.1: jsontext's errors, then what is met when the text is read, then too many nodes, then fields' defaults.
func TestStages(t *testing.T) {
	unfit, ints := fieldOr("d", `"int"`, `"no"`), []string{}
	for i := range 255 {
		ints = append(ints, field("f"+strconv.Itoa(i), `"int"`))
	}
	refuses(t, api.ErrDefault, record("R", unfit))
	refuses(t, api.ErrDefault, record("R", append(ints[:254:254], unfit)...))
	refuses(t, api.ErrAvro, record("R", append(ints, unfit)...))
	refuses(t, api.ErrAvro, record("R", append([]string{unfit}, ints...)...))
	for _, f := range faults() {
		refuses(t, f.e, record("R", unfit, field("f", f.text)))
		refuses(t, f.e, record("R", field("f", f.text), unfit))
		refuses(t, f.e, union(record("R", unfit), f.text))
		refuses(t, f.e, record("R", append(ints, field("f", f.text))...))
		refuses(t, f.e, union(record("R", append(ints, unfit)...), f.text))
		for text, e := range map[string]api.Errno{"{": api.ErrJSON, `"` + "\xff" + `"`: api.ErrUTF, `{"a":1,"a":2}`: api.ErrTwice, "1e1001": api.ErrRange, `"\ud800"`: api.ErrAlone, nest("1", 64, func(s string) string { return union(s) }): api.ErrDeep, `"` + long(1<<20) + `"`: api.ErrLong} {
			refuses(t, e, union(f.text, text))
			refuses(t, e, union(text, f.text))
			refuses(t, e, record("R", unfit, field("f", f.text), fieldOr("g", `"int"`, text)))
		}
	}
}

// TestImports: P9.1: what imports define is there, by its full name, for all behind them.
func TestImports(t *testing.T) {
	f, r := fixed("F", 1), record("a.R", field("f", `"int"`))
	makes(t, "fixed F(1)", `"F"`, imports("F", f)...)
	makes(t, "int", `"int"`, imports("F", f)...)
	makes(t, "record S(f:1 g:1); fixed F(1)", record("S", field("f", `"F"`), field("g", `"F"`)), imports("F", f)...)
	makes(t, "record b.S(r:1); record a.R(f:2); int", record("b.S", field("r", `"a.R"`)), imports("a.R", r)...)
	makes(t, "record a.S(r:1); record a.R(f:2); int", record("a.S", field("r", `"R"`)), imports("a.R", r)...)
	refuses(t, api.ErrName, record("b.S", field("r", `"R"`)), imports("a.R", r)...)
	refuses(t, api.ErrName, record("a.S", field("r", `"F"`)), imports("F", f)...)
	refuses(t, api.ErrName, `"R"`, imports("a.R", r)...)
	makes(t, "union[1 3]; record a.R(f:2); int; fixed F(1)", union(`"a.R"`, `"F"`), imports("F", f, "a.R", r)...)
	makes(t, "record S(r:1 g:3); record a.R(f:2); int; fixed F(1)", `"S"`, imports("F", f, "a.R", r, "S", record("S", field("r", `"a.R"`), field("g", `"F"`)))...)
	refuses(t, api.ErrName, `"S"`, imports("S", record("S", field("g", `"F"`)), "F", f)...)
	refuses(t, api.ErrName, `"G"`, imports("F", f)...)
	many := union(f, enum("b.E", "A"), array(record("c.R", field("f", spaced(fixed("H", 2), "")), field("g", fixed("G", 3)))))
	user := record("S", field("a", `"F"`), field("e", `"c.R"`), field("c", `"H"`), field("d", `"c.G"`), field("b", `"b.E"`))
	for _, name := range []string{"F", "b.E", "c.R", "H", "c.G"} {
		makes(t, "record S(a:1 e:2 c:3 d:4 b:5); fixed F(1); record c.R(f:3 g:4); fixed H(2); fixed c.G(3); enum b.E{A}", user, imports(name, many)...)
		makes(t, "record S(a:1 e:2 c:3 d:4 b:5); fixed F(1); record c.R(f:3 g:4); fixed H(2); fixed c.G(3); enum b.E{A}", `"S"`, imports(name, many, "S", user)...)
	}
	for _, name := range []string{"", "E", "c.E", "R", "G", "c.H", "c.F", "f", "g", "A", "int", "array", "b.E ", " F", ".F", "F.", long(129), "\xff"} {
		refuses(t, api.ErrName, user, imports(name, many)...)
		refuses(t, api.ErrName, `"int"`, imports(name, many)...)
		refuses(t, api.ErrName, `"int"`, imports(name, `"int"`)...)
	}
	refuses(t, api.ErrName, `"int"`, imports("F", `"int"`)...)
	refuses(t, api.ErrName, `"int"`, imports("int", `"int"`)...)
	refuses(t, api.ErrName, `"int"`, imports("F", f, "F", f)...)
	refuses(t, api.ErrName, `"int"`, imports("F", f, "F", `"F"`)...)
	refuses(t, api.ErrName, `"int"`, imports("F", f, "F", fixed("G", 1))...)
	refuses(t, api.ErrName, `"int"`, imports("F", f, "G", union(fixed("G", 1), f))...)
	refuses(t, api.ErrName, `"int"`, imports("F", f, "F", array(`"F"`))...)
	refuses(t, api.ErrName, f, imports("F", f)...)
	refuses(t, api.ErrName, record("F"), imports("G", union(f, fixed("G", 1)))...)
	makes(t, "fixed a.F(1)", fixed("a.F", 1), imports("F", f)...)
	makes(t, "array[1]; record a.R(f:2); int", array(`"a.R"`), imports("F", f, "a.R", r, "G", fixed("G", 1))...)
	makes(t, "record R(n:1 m:3); union[2 0]; null; record S(r:0)", record("R", field("n", union(`"null"`, `"R"`)), field("m", record("S", field("r", `"R"`)))), imports("F", f)...)
	makes(t, "array[1]; record R(n:2); union[3 1]; null", array(`"R"`), imports("R", record("R", field("n", union(`"null"`, `"R"`))))...)
	makes(t, "record a.R(f:1=\"b\"); enum a.E{b c}=c", `"a.R"`, imports("a.R", record("a.R", fieldOr("f", with(enum("E", "b", "c"), `"default":"c"`), `"b"`)))...)
}

// TestImportsErrors: P9.1: an import's error is told ahead of those of what is behind it, its Name's as the last one of it.
func TestImportsErrors(t *testing.T) {
	unfit := record("R", fieldOr("f", `"int"`, "null"))
	for _, f := range faults() {
		refuses(t, f.e, `"int"`, imports("F", f.text)...)
		refuses(t, f.e, `"int"`, imports("", f.text)...)
		refuses(t, f.e, `"int"`, imports("Z", fixed("Z", 1), "F", f.text, "G", "5", "H", `"x"`)...)
		refuses(t, f.e, "{", imports("F", f.text)...)
		refuses(t, api.ErrJSON, f.text, imports("F", "{")...)
		refuses(t, api.ErrDefault, f.text, imports("R", unfit)...)
		refuses(t, api.ErrDefault, f.text, imports("x", unfit)...)
		refuses(t, api.ErrName, f.text, imports("x", fixed("Z", 1))...)
		refuses(t, api.ErrName, "5", imports("x", fixed("Z", 1), "R", unfit, "F", f.text)...)
		refuses(t, f.e, "5", imports("Z", fixed("Z", 1), "F", union(unfit, f.text))...)
	}
	for text, e := range map[string]api.Errno{"": api.ErrJSON, "\xff": api.ErrUTF, `{"a":1,"a":2}`: api.ErrTwice, "1e1001": api.ErrRange, `"\ud800"`: api.ErrAlone, `"` + long(1<<20) + `"`: api.ErrLong, nest("1", 65, func(s string) string { return union(s) }): api.ErrDeep} {
		refuses(t, e, `"x"`, imports("F", text)...)
		refuses(t, e, "5", imports("F", fixed("F", 1), "G", text, "H", "5")...)
		refuses(t, e, text, imports("F", fixed("F", 1))...)
		refuses(t, api.ErrName, text, imports("G", fixed("F", 1))...)
	}
	refuses(t, api.ErrDefault, record("S", fieldOr("f", `"R"`, `{"f":null}`)), imports("R", record("R", field("f", `"int"`)))...)
	makes(t, `record S(f:1={"f":1}); record R(f:2); int`, record("S", fieldOr("f", `"R"`, `{"f":1}`)), imports("R", record("R", field("f", `"int"`)))...)
}

// TestMetAgain: P9.1: a named one without a space that is met again where the space is not empty; imports may bring that about.
func TestMetAgain(t *testing.T) {
	x := record("a.X", field("y", spaced(fixed("Y", 1), "")))
	makes(t, "union[1 2]; record a.X(y:2); fixed Y(1)", union(x, `"Y"`))
	makes(t, "union[1 2]; record a.X(y:2); fixed Y(1)", union(`"a.X"`, `"Y"`), imports("Y", x)...)
	refuses(t, api.ErrAvro, union(`"Y"`, `"a.X"`), imports("Y", x)...)
	refuses(t, api.ErrAvro, record("R", field("f", array(`"Y"`)), field("g", dict(`"a.X"`))), imports("a.X", x)...)
	makes(t, "record R(f:1 g:2 h:2); record a.X(y:2); fixed Y(1)", record("R", field("f", `"a.X"`), field("g", `"Y"`), field("h", `"Y"`)), imports("a.X", x)...)
	refuses(t, api.ErrAvro, `"int"`, imports("a.X", x, "", union(`"Y"`, `"a.X"`))...)
	refuses(t, api.ErrAvro, `"x"`, imports("a.X", x, "R", record("R", field("f", `"Y"`), field("g", `"a.X"`)))...)
	makes(t, "int", `"int"`, imports("a.X", x, "R", record("R", field("f", `"a.X"`), field("g", `"Y"`)))...)
	refuses(t, api.ErrName, union(`"Y"`, `"a.X"`, `"x"`), imports("a.X", x)...)
	refuses(t, api.ErrAvro, record("R", fieldOr("f", `"Y"`, "5"), field("g", `"a.X"`)), imports("a.X", x)...)
	refuses(t, api.ErrDefault, record("R", fieldOr("f", `"a.X"`, "5"), field("g", `"Y"`)), imports("a.X", x)...)
	deep := record("a.b.X", field("l", array(record("Z", field("u", union(`"null"`, dict(spaced(record("Y", field("z", `"a.b.Z"`)), ""))))))))
	makes(t, "array[1]; record a.b.X(l:2); array[3]; record a.b.Z(u:4); union[5 6]; null; map[7]; record Y(z:3)", array(`"a.b.X"`), imports("Y", deep)...)
	refuses(t, api.ErrAvro, array(`"Y"`), imports("Y", deep)...)
	refuses(t, api.ErrAvro, union(`"Y"`, `"a.b.Z"`), imports("Y", deep)...)
	makes(t, "record a.b.Z(u:1); union[2 3]; null; map[4]; record Y(z:0)", `"a.b.Z"`, imports("Y", deep)...)
	loop := record("a.X", field("y", spaced(record("Y", field("x", `"a.X"`), field("y", `"Y"`)), "")))
	makes(t, "record a.X(y:1); record Y(x:0 y:1)", `"a.X"`, imports("a.X", loop)...)
	refuses(t, api.ErrAvro, `"Y"`, imports("a.X", loop)...)
	lone := record("Y", field("y", union(`"null"`, `"Y"`)), field("f", record("b.Z", field("z", `"b.Z"`))))
	makes(t, "record Y(y:1 f:3); union[2 0]; null; record b.Z(z:3)", `"Y"`, imports("Y", lone)...)
	makes(t, "record a.X(y:1); record Y(y:2 f:4); union[3 1]; null; record b.Z(z:4)", record("a.X", field("y", spaced(lone, ""))))
}
