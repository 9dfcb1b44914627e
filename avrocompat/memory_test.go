package avrocompat_test

import (
	"fmt"
	"slices"
	"testing"
	"unsafe"

	"lexicon/api"
	"lexicon/avrocompat"
)

// copied is a value in memory of its own.
func copied(d api.Datum) api.Datum {
	c := d
	c.Bytes, c.Keys, c.List = slices.Clone(d.Bytes), slices.Clone(d.Keys), nil
	for _, v := range d.List {
		c.List = append(c.List, copied(v))
	}
	return c
}

// spoil changes all of a value's lists.
func spoil(d api.Datum) {
	for i := range d.Bytes {
		d.Bytes[i] ^= 0xff
	}
	for i := range d.Keys {
		d.Keys[i] += "x"
	}
	for i := range d.List {
		spoil(d.List[i])
		d.List[i].Int++
	}
}

// roomy is the same schema in memory of its own, with room behind each of its lists, and something in that room.
func roomy(s api.Avro) api.Avro {
	s.Nodes = append(slices.Clone(s.Nodes), api.AvroNode{Kind: 1}, api.AvroNode{Kind: 2})[:len(s.Nodes)]
	for i := range s.Nodes {
		n := &s.Nodes[i]
		n.Fields = append(slices.Clone(n.Fields), api.AvroField{Name: "x"}, api.AvroField{Name: "y"})[:len(n.Fields)]
		n.Symbols = append(slices.Clone(n.Symbols), "X", "Y")[:len(n.Symbols)]
		n.Kids = append(slices.Clone(n.Kids), 1, 2)[:len(n.Kids)]
	}
	return s
}

// all tells all of a roomy schema in a text, with what is in the room behind its lists.
func all(s api.Avro) string {
	text := fmt.Sprintf("%+v %d", s.Nodes[:len(s.Nodes)+2], s.Root)
	for _, n := range s.Nodes {
		text += fmt.Sprintf("%+v %q %v", n.Fields[:len(n.Fields)+2], n.Symbols[:len(n.Symbols)+2], n.Kids[:len(n.Kids)+2])
	}
	return text
}

// piece is a piece of memory.
type piece struct{ from, to uintptr }

// pieceOf is the memory of a list, with the room behind it.
func pieceOf[T any](l []T) piece {
	from := uintptr(unsafe.Pointer(unsafe.SliceData(l)))
	var one T
	return piece{from, from + uintptr(cap(l))*unsafe.Sizeof(one)}
}

// pieceOfText is the memory of a text.
func pieceOfText(s string) piece {
	from := uintptr(unsafe.Pointer(unsafe.StringData(s)))
	return piece{from, from + uintptr(len(s))}
}

// piecesOf are the memory of all lists and keys of a value.
func piecesOf(d api.Datum) []piece {
	l := []piece{pieceOf(d.Bytes), pieceOf(d.Keys), pieceOf(d.List)}
	for _, key := range d.Keys {
		l = append(l, pieceOfText(key))
	}
	for _, v := range d.List {
		l = append(l, piecesOf(v)...)
	}
	return l
}

// shares tells whether a piece of some memory is one of others, or of another one of its own.
func shares(own, others []piece) bool {
	type end struct {
		piece
		own bool
	}
	var l []end
	for _, p := range own {
		l = append(l, end{p, true})
	}
	for _, p := range others {
		l = append(l, end{p, false})
	}
	l = slices.DeleteFunc(l, func(e end) bool { return e.from == e.to })
	slices.SortFunc(l, func(a, b end) int {
		if a.from < b.from {
			return -1
		}
		return 1
	})
	var last [2]uintptr // where what is not one's own, what is, ends
	for _, e := range l {
		if e.own && e.from < last[0] || e.from < last[1] {
			return true
		}
		at := 0
		if e.own {
			at = 1
		}
		last[at] = max(last[at], e.to)
	}
	return false
}

// keepsMemory complains if a call changes what it is handed, or if answers share anything.
func keepsMemory(t *testing.T, w, r api.Avro) {
	t.Helper()
	w, r = roomy(w), roomy(r)
	wasW, wasR := all(w), all(r)
	first, _ := avrocompat.Witness(r, w)
	second, _ := avrocompat.Witness(r, w)
	paths := [2][]api.AvroStep{}
	values := [2][]bool{}
	for i := range 2 {
		paths[i], _ = avrocompat.Path(r, w)
		values[i], _ = avrocompat.Values(w)
	}
	_, _ = avrocompat.Reads(r, w)
	_, _, _ = avrocompat.Both(r, w)
	if all(w) != wasW || all(r) != wasR {
		t.Errorf("P13.1: what was handed in has changed: %s, %s", show(w), show(r))
	}
	own := append(slices.Concat(piecesOf(first), piecesOf(second)), pieceOf(paths[0]), pieceOf(paths[1]), pieceOf(values[0]), pieceOf(values[1]))
	if shares(own, slices.Concat(piecesOfSchema(w), piecesOfSchema(r))) {
		t.Errorf("P13.2: answers share memory: %s, %s", show(w), show(r))
	}
	// What is changed later changes no answer.
	kept, way, had := copied(first), slices.Clone(paths[0]), slices.Clone(values[0])
	spoil(second)
	clear(paths[1])
	clear(values[1])
	for i := range w.Nodes {
		w.Nodes[i].Kind++
		clear(w.Nodes[i].Kids)
	}
	if !same(first, kept) || !slices.Equal(paths[0], way) || !slices.Equal(values[0], had) {
		t.Errorf("P13.2: answers have changed: %s", show(first))
	}
}

// piecesOfSchema are the memory of all lists and texts of a schema.
func piecesOfSchema(s api.Avro) []piece {
	l := []piece{pieceOf(s.Nodes)}
	for _, n := range s.Nodes {
		l = append(l, pieceOf(n.Fields), pieceOf(n.Symbols), pieceOf(n.Kids), pieceOfText(n.Name))
		for _, f := range n.Fields {
			l = append(l, pieceOfText(f.Name))
		}
		for _, symbol := range n.Symbols {
			l = append(l, pieceOfText(symbol))
		}
	}
	return l
}

// TestMemory: P13.1, P13.2: what is handed in is not changed and not kept; answers are new memory.
func TestMemory(t *testing.T) {
	inner := record("S", field("x", fixed("F", 3)), field("y", dict(array(`"F"`))), field("z", enum("E", "A", "B")))
	w := made(record("R", field("a", inner), field("b", `"S"`), field("c", `"F"`), field("d", union(`"null"`, dict(`"S"`))), field("e", `"bytes"`)))
	for _, r := range []string{
		`"int"`,
		record("R", field("a", record("S", field("y", dict(array(`"int"`)))))),
		record("R", field("b", record("S", field("z", enum("E", "A"))))),
		record("R", field("d", union(`"null"`, dict(record("S", field("x", fixed("F", 2))))))),
		record("R", field("e", `"string"`)),
		record("R", field("c", fixed("F", 3))),
		record("R", field("f", `"int"`)),
	} {
		keepsMemory(t, w, made(r))
		keepsMemory(t, made(r), w)
	}
	for seed := range uint64(500) {
		g := (&maker{next: numbers(seed + 1<<30)}).fresh()
		writer := g.whole(3)
		keepsMemory(t, laid(writer), laid(g.fresh().later(writer, 8)))
	}
}
