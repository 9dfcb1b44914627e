package avro_test

import (
	"fmt"
	"slices"
	"strconv"
	"strings"
	"testing"
	"unsafe"

	"lexicon/api"
	"lexicon/avro"
	"lexicon/decimal"
	"lexicon/jsontext"
)

// numbers tells pseudo-random numbers from 0 to n - 1.
func numbers(seed uint64) func(n int) int {
	return func(n int) int {
		seed = seed*6364136223846793005 + 1442695040888963407
		return int(seed >> 33 % uint64(n))
	}
}

// value is the value that a JSON text tells.
func value(text string) api.JSON {
	v, e := jsontext.Parse([]byte(text))
	if e != api.OK {
		panic("no JSON: " + text)
	}
	return v
}

// show is a schema as one text, in which all of it is to be seen.
func show(s api.Avro) string {
	var l []string
	for _, n := range s.Nodes {
		l = append(l, showNode(n))
	}
	if s.Root != 0 {
		l = append(l, "root "+strconv.Itoa(s.Root))
	}
	return strings.Join(l, "; ")
}

// showNode is a node as a text.
func showNode(n api.AvroNode) string {
	kinds := []string{"null", "boolean", "int", "long", "float", "double", "bytes", "string", "record", "enum", "fixed", "array", "map", "union"}
	b := fmt.Sprint("kind ", int(n.Kind))
	if n.Kind >= 0 && n.Kind <= 13 {
		b = kinds[n.Kind]
	}
	if n.Name != "" {
		b += " " + n.Name
	}
	if n.Kind == api.AvroRecord || len(n.Fields) > 0 {
		var l []string
		for _, f := range n.Fields {
			t := f.Name + ":" + strconv.Itoa(f.Type)
			if f.Has {
				t += "=" + string(jsontext.Print(f.Default))
			} else if !jsontext.Equal(f.Default, api.JSON{}) {
				t += "!" + fmt.Sprintf("%+v", f.Default)
			}
			l = append(l, t)
		}
		b += "(" + strings.Join(l, " ") + ")"
	}
	if n.Kind == api.AvroEnum || len(n.Symbols) > 0 {
		b += "{" + strings.Join(n.Symbols, " ") + "}"
	}
	if n.Has {
		b += "=" + n.Default
	} else if n.Default != "" {
		b += "!" + n.Default
	}
	if n.Kind == api.AvroFixed || n.Size != 0 {
		b += "(" + strconv.Itoa(n.Size) + ")"
	}
	if n.Kind >= api.AvroList || len(n.Kids) > 0 {
		b += fmt.Sprint(n.Kids)
	}
	return b
}

// quoted and those below are the pieces of which the tests' texts are made.
func quoted(s string) string { return strconv.Quote(s) }

func record(name string, fields ...string) string {
	return `{"type":"record","name":"` + name + `","fields":[` + strings.Join(fields, ",") + `]}`
}

func field(name, of string) string { return `{"name":"` + name + `","type":` + of + `}` }

func fieldOr(name, of, or string) string {
	return `{"name":"` + name + `","type":` + of + `,"default":` + or + `}`
}

func enum(name string, symbols ...string) string {
	return `{"type":"enum","name":"` + name + `","symbols":["` + strings.Join(symbols, `","`) + `"]}`
}

func fixed(name string, size int) string {
	return `{"type":"fixed","name":"` + name + `","size":` + strconv.Itoa(size) + `}`
}

// spaced is a named one with a namespace.
func spaced(text, space string) string { return with(text, `"namespace":"`+space+`"`) }

// with is an object with one more member, its last one.
func with(text, member string) string { return text[:len(text)-1] + "," + member + "}" }

func array(of string) string { return `{"type":"array","items":` + of + `}` }

func dict(of string) string { return `{"type":"map","values":` + of + `}` }

func union(of ...string) string { return "[" + strings.Join(of, ",") + "]" }

func in(of string) string { return `{"type":` + of + `}` }

// imports are imports of names, each with its text behind it.
func imports(l ...string) []api.Import {
	var made []api.Import
	for i := 0; i < len(l); i += 2 {
		made = append(made, api.Import{Name: l[i], Text: l[i+1]})
	}
	return made
}

// makes complains if Make answers another schema than the one that is shown, or Check does not take it.
func makes(t *testing.T, want, text string, with ...api.Import) {
	t.Helper()
	s, e := avro.Make([]byte(text), with...)
	if got := show(s); e != api.OK || got != want {
		t.Errorf("P9.1: Make of %.300s, %.200v: %d, %.500s; not %.500s", text, with, e, got, want)
	}
	if e := avro.Check(s); e != api.OK {
		t.Errorf("P9.3: Check of Make of %.300s: %d", text, e)
	}
}

// takes complains if Make refuses a text.
func takes(t *testing.T, text string, with ...api.Import) api.Avro {
	t.Helper()
	s, e := avro.Make([]byte(text), with...)
	if e != api.OK || avro.Check(s) != api.OK {
		t.Errorf("P9.1: Make of %.300s, %.200v: %d, %d", text, with, e, avro.Check(s))
	}
	return s
}

// refuses complains if Make answers another error, or a schema beside it.
func refuses(t *testing.T, want api.Errno, text string, with ...api.Import) {
	t.Helper()
	s, e := avro.Make([]byte(text), with...)
	if e != want || s.Nodes != nil || s.Root != 0 {
		t.Errorf("P9.1: Make of %.300s, %.200v: %d, %.200s; not %d", text, with, e, show(s), want)
	}
}

// TestExamples: P9.1: the chapter's examples.
func TestExamples(t *testing.T) {
	makes(t, "int", `"int"`)
	makes(t, "record a.R(n:1=null); union[2 0]; null", `{"type":"record","name":"a.R","fields":[{"name":"n","type":["null","R"],"default":null}]}`)
	refuses(t, api.ErrAvro, `["int","int"]`)
	refuses(t, api.ErrAvro, `{"type":"fixed","name":"f","size":-1}`)
	refuses(t, api.ErrName, `"x"`)
	refuses(t, api.ErrDefault, `{"type":"enum","name":"e","symbols":["A"],"default":"B"}`)
}

// TestNames: P9.2: Names and Find tell the named nodes by their numbers.
func TestNames(t *testing.T) {
	s := takes(t, record("a.R", field("x", union(`"null"`, enum("E", "A"))), field("y", array(spaced(fixed("F", 2), ""))), field("z", `"E"`)))
	for want, name := range map[int]string{0: "a.R", 3: "a.E", 5: "F"} {
		if n, ok := avro.Find(s, name); n != want || !ok {
			t.Errorf("P9.2: Find of %s: %d, %t", name, n, ok)
		}
	}
	for _, name := range []string{"", "R", "E", "a.F", "a", "a.r", "x", "A", "null", "union", "a.R ", "\xff", strings.Repeat("a", 1000)} {
		if n, ok := avro.Find(s, name); n != 0 || ok {
			t.Errorf("P9.2: Find of %s: %d, %t", name, n, ok)
		}
	}
	if l := avro.Names(s); !slices.Equal(l, []string{"a.R", "a.E", "F"}) {
		t.Errorf("P9.2: Names: %v", l)
	}
	for _, text := range []string{`"int"`, array(`"null"`), union(`"null"`, dict(`"bytes"`))} {
		s := takes(t, text)
		if l := avro.Names(s); len(l) > 0 {
			t.Errorf("P9.2: Names of %s: %v", text, l)
		}
		if n, ok := avro.Find(s, ""); n != 0 || ok {
			t.Errorf("P9.2: Find of none in %s: %d, %t", text, n, ok)
		}
	}
	s = takes(t, record("R", field("a", `"R"`)))
	if n, ok := avro.Find(s, "R"); n != 0 || !ok {
		t.Errorf("P9.2: Find of R: %d, %t", n, ok)
	}
	s.Nodes[0].Fields[0].Type = 1
	if l := avro.Names(s); l != nil {
		t.Errorf("P9.2: Names of one that may not be: %v", l)
	}
	if n, ok := avro.Find(s, "R"); n != 0 || ok {
		t.Errorf("P9.2: Find in one that may not be: %d, %t", n, ok)
	}
}

// TestPlain: P9.2: each plain kind's name, and none of any other kind.
func TestPlain(t *testing.T) {
	for i, name := range []string{"null", "boolean", "int", "long", "float", "double", "bytes", "string"} {
		if got, ok := avro.Plain(api.AvroKind(i)); got != name || !ok {
			t.Errorf("P9.2: Plain of %d: %q, %t", i, got, ok)
		}
	}
	for _, kind := range []api.AvroKind{-1 << 63, -256, -1, 8, 9, 10, 11, 12, 13, 14, 256, 1 << 32, 1<<63 - 1} {
		if got, ok := avro.Plain(kind); got != "" || ok {
			t.Errorf("P9.2: Plain of %d: %q, %t", kind, got, ok)
		}
	}
}

// TestMemory: all of P9: what is handed in stays as it was, with the room behind it; answers are new memory.
func TestMemory(t *testing.T) {
	text := record("some.space.Name", fieldOr("first", `"string"`, `"some text"`), fieldOr("second", dict(`"long"`), `{"key":1234567}`), field("third", with(enum("Symbols", "ONE", "OTHER"), `"default":"OTHER"`)), field("fourth", union(`"null"`, `"Symbols"`)))
	given := append([]byte(text), "room behind"...)
	of := imports("other.Fixed", fixed("other.Fixed", 4))
	s, e := avro.Make(given[:len(text)], of...)
	if e != api.OK || string(given) != text+"room behind" || !slices.Equal(of, imports("other.Fixed", fixed("other.Fixed", 4))) {
		t.Errorf("P9.1: Make changes what is handed in: %d, %s", e, given)
	}
	seen := show(s)
	for i := range given {
		given[i] = 'x'
	}
	if got := show(s); got != seen {
		t.Errorf("P9.1: Make keeps what is handed in: %s", got)
	}
	l := words(s)
	for i := range l {
		for j := range l[:i] {
			if unsafe.StringData(l[i]) == unsafe.StringData(l[j]) {
				t.Errorf("P9.1: an answer shares %q and %q", l[i], l[j])
			}
		}
	}
	for _, name := range avro.Names(s) {
		for _, other := range l {
			if unsafe.StringData(name) == unsafe.StringData(other) {
				t.Errorf("P9.2: Names shares %q", name)
			}
		}
	}
	avro.Check(s)
	avro.Find(s, "some.space.Name")
	avro.Fits(s, 0, value(`{"first":"","second":{},"third":"ONE","fourth":null}`))
	avro.Same(s, s)
	if got := show(s); got != seen {
		t.Errorf("P9.2: a call changes what is handed in: %s", got)
	}
	again, e := avro.Make([]byte(text), of...)
	again.Nodes[0].Fields[0].Name, again.Nodes[0].Fields[1].Default.List[0].Number, again.Nodes[5].Kids[0] = "x", decimal.FromInt(5), 3
	if got := show(s); e != api.OK || got != seen {
		t.Errorf("P9.1: two answers of Make share memory: %s", got)
	}
}

// words are the texts of a schema that have 2 bytes or more.
func words(s api.Avro) []string {
	var l []string
	var all func(v api.JSON)
	all = func(v api.JSON) {
		l = append(append(l, v.Text, v.Number.Digits), v.Names...)
		for _, v := range v.List {
			all(v)
		}
	}
	for _, n := range s.Nodes {
		l = append(append(l, n.Name, n.Default), n.Symbols...)
		for _, f := range n.Fields {
			l = append(l, f.Name)
			all(f.Default)
		}
	}
	return slices.DeleteFunc(l, func(s string) bool { return len(s) < 2 })
}
