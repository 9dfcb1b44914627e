package avroresolve_test

import (
	"math"
	"math/big"
	"strconv"
	"strings"
	"unicode/utf8"

	"lexicon/api"
)

// same tells whether two values are the same, nil and empty meaning one thing.
func same(a, b api.Datum) bool {
	if a.Kind != b.Kind || a.Bool != b.Bool || a.Int != b.Int || a.Bits != b.Bits || string(a.Bytes) != string(b.Bytes) || len(a.Keys) != len(b.Keys) || len(a.List) != len(b.List) {
		return false
	}
	for i := range a.Keys {
		if a.Keys[i] != b.Keys[i] {
			return false
		}
	}
	for i := range a.List {
		if !same(a.List[i], b.List[i]) {
			return false
		}
	}
	return true
}

// nested is how many values of a value are nested in one another.
func nested(d api.Datum) int {
	deepest := 0
	for _, v := range d.List {
		deepest = max(deepest, nested(v))
	}
	return deepest + 1
}

// total is how many values a value has in all.
func total(d api.Datum) int {
	n := 1
	for _, v := range d.List {
		n += total(v)
	}
	return n
}

// lastPart is a name's last part.
func lastPart(name string) string {
	l := strings.Split(name, ".")
	return l[len(l)-1]
}

// goesInto tells whether a kind goes into another, by their names.
func goesInto(from, to api.AvroKind) bool {
	names := []string{"null", "boolean", "int", "long", "float", "double", "bytes", "string"}
	if from < 0 || to < 0 || from > 7 || to > 7 {
		return false
	}
	switch names[from] + " into " + names[to] {
	case "int into long", "int into float", "int into double", "long into float", "long into double", "float into double", "bytes into string", "string into bytes":
		return true
	}
	return false
}

// model turns values by the chapter's words.
type model struct{ w, r api.Avro }

// turnedBy is the answer that the chapter's words ask of Turn, and whether there is one.
func turnedBy(w, r api.Avro, d api.Datum) (api.Datum, bool) {
	v, ok := model{w, r}.turned(0, 0, d)
	return bounded(v, ok)
}

// defaultOf is the answer that the chapter's words ask of Default of what fits, and whether there is one.
func defaultOf(s api.Avro, node int, v api.JSON) (api.Datum, bool) {
	return bounded(model{s, s}.standing(node, v), true)
}

// bounded is a value, if there is one, that is within the bounds.
func bounded(d api.Datum, ok bool) (api.Datum, bool) {
	if !ok || nested(d) > 64 || total(d) > 65536 {
		return api.Datum{}, false
	}
	return d, true
}

// branchFor is the branch of a union for a node.
func (m model) branchFor(w, union int) (int, bool) {
	from := m.w.Nodes[w]
	first, second, third := -1, -1, -1
	kids := m.r.Nodes[union].Kids
	for i := len(kids) - 1; i >= 0; i-- {
		to := m.r.Nodes[kids[i]]
		if to.Kind == from.Kind {
			if from.Kind < 8 || from.Kind > 10 || to.Name == from.Name {
				first = i
			}
			if lastPart(to.Name) == lastPart(from.Name) {
				second = i
			}
		}
		if goesInto(from.Kind, to.Kind) {
			third = i
		}
	}
	for _, i := range []int{first, second, third} {
		if i >= 0 {
			return i, true
		}
	}
	return 0, false
}

// turned is a value of the writer's node, turned into one of the reader's, and whether it is not refused.
func (m model) turned(w, r int, d api.Datum) (api.Datum, bool) {
	from, to := m.w.Nodes[w], m.r.Nodes[r]
	v := api.Datum{Kind: to.Kind}
	switch {
	case from.Kind == api.AvroUnion:
		return m.turned(from.Kids[d.Int], r, d.List[0])
	case to.Kind == api.AvroUnion:
		at, ok := m.branchFor(w, r)
		if !ok {
			return v, false
		}
		one, ok := m.turned(w, to.Kids[at], d)
		v.Int, v.List = int64(at), []api.Datum{one}
		return v, ok
	case goesInto(from.Kind, to.Kind):
		return other(from.Kind, to.Kind, d)
	case from.Kind != to.Kind:
		return v, false
	case from.Kind <= api.AvroText:
		return d, true
	}
	isLast := lastPart(from.Name) == lastPart(to.Name)
	switch from.Kind {
	case api.AvroFixed:
		return d, isLast && from.Size == to.Size
	case api.AvroEnum:
		v.Int = placeOf(to, from.Symbols[d.Int])
		return v, isLast && v.Int >= 0
	case api.AvroRecord:
		ok := isLast
		for _, f := range to.Fields {
			one, is := m.field(from, f, d)
			ok = ok && is
			v.List = append(v.List, one)
		}
		return v, ok
	}
	ok := true
	v.Keys = d.Keys
	for _, one := range d.List {
		one, is := m.turned(from.Kids[0], to.Kids[0], one)
		ok = ok && is
		v.List = append(v.List, one)
	}
	return v, ok
}

// placeOf is the place of an enum's symbol, else of its default; below 0, if there is neither.
func placeOf(enum api.AvroNode, symbol string) int64 {
	or := int64(-1)
	for i, s := range enum.Symbols {
		if s == symbol {
			return int64(i)
		}
		if enum.Has && s == enum.Default {
			or = int64(i)
		}
	}
	return or
}

// field is the value of a reader's field.
func (m model) field(from api.AvroNode, f api.AvroField, d api.Datum) (api.Datum, bool) {
	for i, other := range from.Fields {
		if other.Name == f.Name {
			return m.turned(other.Type, f.Type, d.List[i])
		}
	}
	if !f.Has {
		return api.Datum{}, false
	}
	return m.standing(f.Type, f.Default), true
}

// other is a value of a plain kind as one of another into which that goes.
func other(from, to api.AvroKind, d api.Datum) (api.Datum, bool) {
	v := api.Datum{Kind: to}
	switch to {
	case api.AvroLong:
		v.Int = d.Int
	case api.AvroFloat:
		v.Bits = float32Of(new(big.Rat).SetInt64(d.Int))
	case api.AvroDouble:
		v.Bits = float64Of(new(big.Rat).SetInt64(d.Int))
		if from == api.AvroFloat {
			v.Bits = wide(uint32(d.Bits))
		}
	default:
		v.Bytes = d.Bytes
		return v, to == api.AvroBytes || utf8.Valid(d.Bytes)
	}
	return v, true
}

// float32Of are the bits of the nearest float of 32 bits.
func float32Of(n *big.Rat) uint64 {
	f, _ := n.Float32()
	return uint64(math.Float32bits(f))
}

// float64Of are the bits of the nearest float of 64 bits.
func float64Of(n *big.Rat) uint64 {
	f, _ := n.Float64()
	return math.Float64bits(f)
}

// wide are the bits of a float of 32 bits as one of 64.
func wide(b uint32) uint64 {
	sign, exponent, fraction := uint64(b>>31), uint64(b>>23)%256, uint64(b)%(1<<23)
	switch {
	case exponent == 255:
		return sign<<63 + 2047<<52 + fraction<<29
	case exponent == 0 && fraction == 0:
		return sign << 63
	case exponent == 0:
		// One more bit ahead of the fraction: it is brought to where that of others is.
		for exponent = 1024 - 127; fraction < 1<<23; exponent-- {
			fraction *= 2
		}
		return sign<<63 + exponent<<52 + (fraction-1<<23)<<29
	}
	return sign<<63 + (exponent+1023-127)<<52 + fraction<<29
}

// standing is a default, which fits, as a value of the reader's node.
func (m model) standing(at int, v api.JSON) api.Datum {
	n := m.r.Nodes[at]
	d := api.Datum{Kind: n.Kind}
	number, _ := new(big.Rat).SetString("0" + v.Number.Digits + "e" + strconv.Itoa(v.Number.Exp))
	if v.Number.Neg {
		number.Neg(number)
	}
	switch n.Kind {
	case api.AvroBool:
		d.Bool = v.Bool
	case api.AvroInt, api.AvroLong:
		d.Int = number.Num().Int64()
	case api.AvroFloat:
		d.Bits = float32Of(number)
	case api.AvroDouble:
		d.Bits = float64Of(number)
	case api.AvroBytes, api.AvroFixed:
		for _, letter := range []rune(v.Text) {
			d.Bytes = append(d.Bytes, byte(letter))
		}
	case api.AvroText:
		d.Bytes = []byte(v.Text)
	case api.AvroRecord:
		for _, f := range n.Fields {
			for i, name := range v.Names {
				if name == f.Name {
					d.List = append(d.List, m.standing(f.Type, v.List[i]))
				}
			}
		}
	case api.AvroEnum:
		d.Int = placeOf(n, v.Text)
	case api.AvroList, api.AvroMap:
		d.Keys = v.Names
		for _, one := range v.List {
			d.List = append(d.List, m.standing(n.Kids[0], one))
		}
	case api.AvroUnion:
		d.List = []api.Datum{m.standing(n.Kids[0], v)}
	}
	return d
}
