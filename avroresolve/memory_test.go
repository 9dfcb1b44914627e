package avroresolve_test

import (
	"bytes"
	"slices"
	"testing"
	"unsafe"

	"lexicon/api"
	"lexicon/avro"
	"lexicon/avroresolve"
	"lexicon/jsontext"
)

// room is how much is spare behind each list of a roomy value.
const room = 3

// roomy is the same value, with room behind each of its lists, and something in that room.
func roomy(d api.Datum) api.Datum {
	c := d
	c.Bytes = append(slices.Clone(d.Bytes), 0xee, 0xed, 0xec)[:len(d.Bytes)]
	c.Keys = append(slices.Clone(d.Keys), "x", "y", "z")[:len(d.Keys)]
	c.List = nil
	for _, v := range d.List {
		c.List = append(c.List, roomy(v))
	}
	c.List = append(c.List, api.Datum{Int: 1}, api.Datum{Int: 2}, api.Datum{Int: 3})[:len(d.List)]
	return c
}

// whole is a roomy value with what is in the room behind its lists.
func whole(d api.Datum) api.Datum {
	c := d
	c.Bytes, c.Keys, c.List = d.Bytes[:len(d.Bytes)+room], d.Keys[:len(d.Keys)+room], nil
	for _, v := range d.List {
		c.List = append(c.List, whole(v))
	}
	c.List = append(c.List, d.List[len(d.List):len(d.List)+room]...)
	return copied(c)
}

// copied is a value in memory of its own.
func copied(d api.Datum) api.Datum {
	c := d
	c.Bytes, c.Keys, c.List = slices.Clone(d.Bytes), slices.Clone(d.Keys), nil
	for _, v := range d.List {
		c.List = append(c.List, copied(v))
	}
	return c
}

// spoil changes all of a value's lists.
func spoil(d api.Datum) {
	for i := range d.Bytes {
		d.Bytes[i] ^= 0xff
	}
	for i := range d.Keys {
		d.Keys[i] += "x"
	}
	for i := range d.List {
		spoil(d.List[i])
		d.List[i].Int++
	}
}

// clonedSchema is the same schema in memory of its own.
func clonedSchema(s api.Avro) api.Avro {
	s.Nodes = slices.Clone(s.Nodes)
	for i := range s.Nodes {
		n := &s.Nodes[i]
		n.Fields, n.Symbols, n.Kids = slices.Clone(n.Fields), slices.Clone(n.Symbols), slices.Clone(n.Kids)
		for j, f := range n.Fields {
			n.Fields[j].Default = clonedJSON(f.Default)
		}
	}
	return s
}

// clonedJSON is the same value in memory of its own.
func clonedJSON(v api.JSON) api.JSON {
	c := v
	c.Names, c.List = slices.Clone(v.Names), nil
	for _, one := range v.List {
		c.List = append(c.List, clonedJSON(one))
	}
	return c
}

// piece is a piece of memory.
type piece struct{ from, to uintptr }

// pieceOf is the memory of a list, with the room behind it.
func pieceOf[T any](l []T) piece {
	from := uintptr(unsafe.Pointer(unsafe.SliceData(l)))
	var one T
	return piece{from, from + uintptr(cap(l))*unsafe.Sizeof(one)}
}

// pieceOfText is the memory of a text.
func pieceOfText(s string) piece {
	from := uintptr(unsafe.Pointer(unsafe.StringData(s)))
	return piece{from, from + uintptr(len(s))}
}

// piecesOf are the memory of all lists and keys of a value.
func piecesOf(d api.Datum) []piece {
	l := []piece{pieceOf(d.Bytes), pieceOf(d.Keys), pieceOf(d.List)}
	for _, key := range d.Keys {
		l = append(l, pieceOfText(key))
	}
	for _, v := range d.List {
		l = append(l, piecesOf(v)...)
	}
	return l
}

// piecesOfJSON are the memory of all lists and texts of a value.
func piecesOfJSON(v api.JSON) []piece {
	l := []piece{pieceOf(v.Names), pieceOf(v.List), pieceOfText(v.Text)}
	for _, name := range v.Names {
		l = append(l, pieceOfText(name))
	}
	for _, one := range v.List {
		l = append(l, piecesOfJSON(one)...)
	}
	return l
}

// piecesOfDefaults are the memory of a schema's defaults.
func piecesOfDefaults(s api.Avro) []piece {
	var l []piece
	for _, n := range s.Nodes {
		for _, f := range n.Fields {
			l = append(l, piecesOfJSON(f.Default)...)
		}
	}
	return l
}

// shares tells whether a piece of some memory is one of others, or of another one of its own.
func shares(own, others []piece) bool {
	type end struct {
		piece
		own bool
	}
	var l []end
	for _, p := range own {
		l = append(l, end{p, true})
	}
	for _, p := range others {
		l = append(l, end{p, false})
	}
	l = slices.DeleteFunc(l, func(e end) bool { return e.from == e.to })
	slices.SortFunc(l, func(a, b end) int {
		if a.from < b.from {
			return -1
		}
		return 1
	})
	var last [2]uintptr // where what is not one's own, what is, ends
	for _, e := range l {
		if e.own && e.from < last[0] || e.from < last[1] {
			return true
		}
		at := 0
		if e.own {
			at = 1
		}
		last[at] = max(last[at], e.to)
	}
	return false
}

// keepsMemory complains if a call changes what it is handed, or keeps it, or if answers share anything; the value fits the writer's root.
func keepsMemory(t *testing.T, w, r api.Avro, d api.Datum) {
	t.Helper()
	b := encoded(t, w, d)
	w, r = clonedSchema(w), clonedSchema(r)
	wWas, rWas := clonedSchema(w), clonedSchema(r)
	v := roomy(d)
	was := whole(v)
	given := append(slices.Clone(b), 0xee, 0xed, 0xec)
	givenWas := slices.Clone(given)
	in := given[:len(b)]

	first, _ := avroresolve.Turn(w, r, v)
	second, _ := avroresolve.Turn(w, r, v)
	third, _ := avroresolve.Read(w, r, in)
	if !same(whole(v), was) || !bytes.Equal(given, givenWas) || !avro.Same(w, wWas) || !avro.Same(r, rWas) {
		t.Errorf("P12.1: what was handed in has changed: %s, %s", show(v), show(given))
	}
	own := slices.Concat(piecesOf(first), piecesOf(second), piecesOf(third))
	others := slices.Concat(piecesOf(v), []piece{pieceOf(given)}, piecesOfDefaults(w), piecesOfDefaults(r))
	if shares(own, others) {
		t.Errorf("P12.1: answers share memory: %s, %s", show(v), show(first))
	}
	// What is changed later changes no answer.
	kept := copied(first)
	for i := range given {
		given[i] ^= 0xff
	}
	spoil(v)
	spoil(second)
	if !same(first, kept) || !same(third, kept) {
		t.Errorf("P12.1: answers have changed: %s, %s", show(first), show(third))
	}
}

// keepsDefault complains if Default changes what it is handed, or keeps it; the value fits the node.
func keepsDefault(t *testing.T, s api.Avro, node int, v api.JSON) {
	t.Helper()
	s, v = clonedSchema(s), clonedJSON(v)
	wasSchema, was := clonedSchema(s), clonedJSON(v)
	first, _ := avroresolve.Default(s, node, v)
	second, _ := avroresolve.Default(s, node, v)
	if !avro.Same(s, wasSchema) || !jsontext.Equal(v, was) || string(jsontext.Print(v)) != string(jsontext.Print(was)) {
		t.Errorf("P12.2: what was handed in has changed: %s", show(v))
	}
	if shares(slices.Concat(piecesOf(first), piecesOf(second)), slices.Concat(piecesOfJSON(v), piecesOfDefaults(s))) {
		t.Errorf("P12.2: answers share memory: %s, %s", show(v), show(first))
	}
	kept := copied(first)
	spoil(second)
	if !same(first, kept) {
		t.Errorf("P12.2: answers have changed: %s, %s", show(first), show(kept))
	}
}

// TestMemory: P12.1, P12.2: what is handed in is not changed and not kept; answers are new memory.
func TestMemory(t *testing.T) {
	inner := record("S", field("x", `"bytes"`), field("y", dict(`"string"`)))
	w := made(record("R", field("a", `"bytes"`), field("b", `"string"`), field("c", fixed("F", 3)), field("d", array(`"bytes"`)), field("e", dict(array(`"string"`))), field("f", union(`"null"`, inner)), field("g", array(`"S"`))))
	one := fields(binary("x"), dicted("key", text("v"), "other", text("")))
	d := fields(binary("abc"), text("\u00e9"), fix("\x00\x01\x02"), list(binary(""), binary("a"), binary("a")), dicted("key", list(text("a"), text("b")), "more", list()), branch(1, one), list(one, one))
	keepsMemory(t, w, w, d)
	or := `{"x":"long","y":{"key":"value","other":"w"}}`
	r := made(record("R", field("e", dict(array(`"bytes"`))), field("a", union(`"null"`, `"string"`)), fieldOr("h", array(`"string"`), `["some","text"]`),
		field("g", array(record("S", field("y", dict(`"bytes"`)), fieldOr("z", dict(`"string"`), `{"name":"value"}`), fieldOr("v", fixed("G", 2), `"xy"`)))),
		fieldOr("i", record("T", field("x", `"bytes"`), field("y", dict(`"string"`))), or), field("c", fixed("F", 3)), field("d", array(`"bytes"`))))
	keepsMemory(t, w, r, d)
	keepsDefault(t, made(inner), 0, value(or))
	keepsDefault(t, made(dict(array(union(`"string"`, `"null"`)))), 0, value(`{"key":["a","text"],"other":[]}`))
	keepsDefault(t, made(fixed("F", 3)), 0, value(`"abc"`))
	// One list, one default may stand in a value more than once.
	twice := text("ab")
	l := list(twice, twice)
	keepsMemory(t, made(array(array(`"string"`))), made(array(array(`"bytes"`))), list(l, l, list(twice)))
	again := value(`["text"]`)
	keepsDefault(t, made(array(array(`"string"`))), 0, api.JSON{Kind: api.JSONList, List: []api.JSON{again, again}})
	// What is refused midway.
	keepsMemory(t, w, made(record("R", field("e", dict(array(`"bytes"`))), field("b", `"int"`))), d)
	name := "some.space.Name"
	if shares([]piece{pieceOfText(avroresolve.Last(name))}, []piece{pieceOfText(name)}) {
		t.Error("P12.2: Last shares memory")
	}
}
