package avrocodec_test

import (
	"bytes"
	"slices"
	"testing"
	"unsafe"

	"lexicon/api"
	"lexicon/avro"
	"lexicon/avrocodec"
)

// room is how much is spare behind each list of a roomy value.
const room = 3

// roomy is the same value, with room behind each of its lists, and something in that room.
func roomy(d api.Datum) api.Datum {
	c := d
	c.Bytes = append(slices.Clone(d.Bytes), 0xee, 0xed, 0xec)[:len(d.Bytes)]
	c.Keys = append(slices.Clone(d.Keys), "x", "y", "z")[:len(d.Keys)]
	c.List = nil
	for _, v := range d.List {
		c.List = append(c.List, roomy(v))
	}
	c.List = append(c.List, api.Datum{Int: 1}, api.Datum{Int: 2}, api.Datum{Int: 3})[:len(d.List)]
	return c
}

// whole is a roomy value with what is in the room behind its lists.
func whole(d api.Datum) api.Datum {
	c := d
	c.Bytes, c.Keys, c.List = d.Bytes[:len(d.Bytes)+room], d.Keys[:len(d.Keys)+room], nil
	for _, v := range d.List {
		c.List = append(c.List, whole(v))
	}
	c.List = append(c.List, d.List[len(d.List):len(d.List)+room]...)
	return copied(c)
}

// clonedSchema is the same schema in memory of its own.
func clonedSchema(s api.Avro) api.Avro {
	s.Nodes = slices.Clone(s.Nodes)
	for i := range s.Nodes {
		n := &s.Nodes[i]
		n.Fields, n.Symbols, n.Kids = slices.Clone(n.Fields), slices.Clone(n.Symbols), slices.Clone(n.Kids)
	}
	return s
}

// piece is a piece of memory.
type piece struct{ from, to uintptr }

// pieceOf is the memory of a list, with the room behind it.
func pieceOf[T any](l []T) piece {
	from := uintptr(unsafe.Pointer(unsafe.SliceData(l)))
	var one T
	return piece{from, from + uintptr(cap(l))*unsafe.Sizeof(one)}
}

// piecesOf are the memory of all lists of a value.
func piecesOf(d api.Datum) []piece {
	l := []piece{pieceOf(d.Bytes), pieceOf(d.Keys), pieceOf(d.List)}
	for _, v := range d.List {
		l = append(l, piecesOf(v)...)
	}
	return l
}

// shares tells whether two of some pieces of memory share any.
func shares(l []piece) bool {
	l = slices.DeleteFunc(l, func(p piece) bool { return p.from == p.to })
	slices.SortFunc(l, func(a, b piece) int {
		if a.from < b.from {
			return -1
		}
		return 1
	})
	for i := 1; i < len(l); i++ {
		if l[i].from < l[i-1].to {
			return true
		}
	}
	return false
}

// keepsMemory complains if a call changes what it is handed, or keeps it, or if answers share anything; the value fits the root, or not.
func keepsMemory(t *testing.T, s api.Avro, d api.Datum, b []byte) {
	t.Helper()
	schema := clonedSchema(s)
	v := roomy(d)
	was := whole(v)
	given := append(slices.Clone(b), 0xee, 0xed, 0xec)
	givenWas := slices.Clone(given)
	in := given[:len(b)]

	avrocodec.Check(s, 0, v)
	avrocodec.Size(s, v)
	avrocodec.Same(v, v)
	avrocodec.Same(v, d)
	one, _ := avrocodec.Encode(s, v)
	other, _ := avrocodec.Encode(s, v)
	first, _ := avrocodec.Decode(s, in)
	second, _ := avrocodec.Decode(s, in)
	third, _, _ := avrocodec.Take(s, 0, in)
	if !same(whole(v), was) || !bytes.Equal(given, givenWas) || !avro.Same(s, schema) {
		t.Errorf("P11.1, P11.2: what was handed in has changed: %s, %s", show(v), show(given))
	}
	l := slices.Concat(piecesOf(v), piecesOf(first), piecesOf(second), piecesOf(third), []piece{pieceOf(given), pieceOf(one), pieceOf(other)})
	if shares(l) {
		t.Errorf("P11.1, P11.2: answers share memory: %s, %s", show(v), show(given))
	}
	// What is changed later changes no answer.
	keptOne, keptFirst := slices.Clone(one), copied(first)
	for i := range given {
		given[i] ^= 0xff
	}
	spoil(v)
	spoil(second)
	for i := range other {
		other[i] ^= 0xff
	}
	if !bytes.Equal(one, keptOne) || !same(first, keptFirst) || !same(third, keptFirst) {
		t.Errorf("P11.1, P11.2: answers have changed: %s, %s", show(one), show(first))
	}
}

// spoil changes all of a value's lists.
func spoil(d api.Datum) {
	for i := range d.Bytes {
		d.Bytes[i] ^= 0xff
	}
	for i := range d.Keys {
		d.Keys[i] += "x"
	}
	for i := range d.List {
		spoil(d.List[i])
		d.List[i].Int++
	}
}

// TestMemory: P11.1, P11.2: what is handed in is not changed and not kept; answers are new memory.
func TestMemory(t *testing.T) {
	s := made(record("R", `"bytes"`, `"string"`, fixed("F", 3), array(`"bytes"`), dict(array(`"string"`)), union(`"null"`, `"F"`, `"R"`), array(`"F"`)))
	inner := fields(binary("x"), text("yz"), fix("abc"), list(), dicted(), branch(0, null()), list(fix("def")))
	d := fields(binary("abc"), text("\u00e9"), fix("\x00\x01\x02"), list(binary(""), binary("a"), binary("a")), dicted("key", list(text("a"), text("b")), "", list()), branch(2, inner), list(fix("abc"), fix("abc")))
	keepsMemory(t, s, d, bytesOf(s, 0, d))
	keepsMemory(t, s, fields(), []byte{2})
	wrong := copied(d)
	wrong.List[6].List[1].Bytes = []byte("ab")
	keepsMemory(t, s, wrong, bytesOf(s, 0, d)[:20])
	for kind, of := range []string{`"null"`, `"boolean"`, `"int"`, `"long"`, `"float"`, `"double"`, `"bytes"`, `"string"`, record("S"), enum("E", "A", "B", "C"), fixed("F", 2), array(`"null"`), dict(`"null"`), union(`"null"`)} {
		s := made(of)
		for _, d := range eachKind()[kind] {
			keepsMemory(t, s, d, bytesOf(s, 0, d))
		}
	}
	// One list may stand in a value more than once, and is read back as lists of their own.
	twice := text("ab")
	s = made(array(array(`"string"`)))
	l := list(twice, twice)
	d = list(l, l, list(twice))
	codes(t, s, 0, d, bytesOf(s, 0, d))
	keepsMemory(t, s, d, bytesOf(s, 0, d))
}
