package avrocodec_test

import (
	"math"
	"strings"
	"testing"

	"lexicon/api"
	"lexicon/avro"
	"lexicon/avrocodec"
)

// nodes are a schema of nodes.
func nodes(l ...api.AvroNode) api.Avro { return api.Avro{Nodes: l} }

// of is a node with kids.
func of(kind api.AvroKind, kids ...int) api.AvroNode { return api.AvroNode{Kind: kind, Kids: kids} }

// rec is a record whose fields a, b .. are of these nodes.
func rec(name string, types ...int) api.AvroNode {
	n := api.AvroNode{Kind: api.AvroRecord, Name: name}
	for i, at := range types {
		n.Fields = append(n.Fields, api.AvroField{Name: string(rune('a' + i)), Type: at})
	}
	return n
}

// wrong are schemas that may not be.
func wrong() map[string]api.Avro {
	fixed := func(size int) api.AvroNode { return api.AvroNode{Kind: api.AvroFixed, Name: "F", Size: size} }
	enum := func(symbols ...string) api.AvroNode {
		return api.AvroNode{Kind: api.AvroEnum, Name: "E", Symbols: symbols}
	}
	many := nodes(of(api.AvroUnion))
	for range 256 {
		many.Nodes = append(many.Nodes, of(api.AvroNull))
	}
	defaulted := nodes(rec("R", 1), of(api.AvroInt))
	defaulted.Nodes[0].Fields[0].Has = true
	null := of(api.AvroNull)
	return map[string]api.Avro{
		"none":                      {},
		"no nodes":                  {Nodes: []api.AvroNode{}},
		"no nodes, a root":          {Root: 1},
		"a root below":              {Nodes: []api.AvroNode{null}, Root: -1},
		"a root past the last":      {Nodes: []api.AvroNode{null}, Root: 1},
		"a root that is not 0":      {Nodes: []api.AvroNode{of(api.AvroList, 1), null}, Root: 1},
		"a great root":              {Nodes: []api.AvroNode{null}, Root: math.MaxInt},
		"a list of itself":          nodes(of(api.AvroList, 0)),
		"a map of itself":           nodes(of(api.AvroMap, 0)),
		"a union of itself":         nodes(of(api.AvroUnion, 0)),
		"two that lead round":       nodes(of(api.AvroList, 1), of(api.AvroMap, 0)),
		"three that lead round":     nodes(of(api.AvroList, 1), of(api.AvroUnion, 2), of(api.AvroMap, 1)),
		"a list that leads nowhere": nodes(of(api.AvroList, 1)),
		"a map that leads below":    nodes(of(api.AvroMap, -1)),
		"a field that leads away":   nodes(rec("R", 2), null),
		"a list of none":            nodes(of(api.AvroList)),
		"a list of two":             nodes(of(api.AvroList, 1, 2), null, of(api.AvroInt)),
		"a union of none":           nodes(of(api.AvroUnion)),
		"a union in a union":        nodes(of(api.AvroUnion, 1), of(api.AvroUnion, 2), null),
		"a kind twice in a union":   nodes(of(api.AvroUnion, 1, 2), null, null),
		"a kind below":              nodes(of(-1)),
		"a kind above":              nodes(of(14)),
		"a kind far above":          nodes(of(math.MaxInt)),
		"nodes out of order":        nodes(rec("R", 2, 1), null, of(api.AvroInt)),
		"a node that is not met":    nodes(null, null),
		"a plain one met twice":     nodes(rec("R", 1, 1), null),
		"a plain one with a name":   nodes(api.AvroNode{Name: "N"}),
		"a name that is none":       nodes(rec("1R")),
		"no name":                   nodes(rec("")),
		"a size below 0":            nodes(fixed(-1)),
		"a size beyond":             nodes(fixed(1<<16 + 1)),
		"a great size":              nodes(fixed(math.MaxInt)),
		"no symbols":                nodes(enum()),
		"a symbol twice":            nodes(enum("A", "A")),
		"a field twice":             nodes(api.AvroNode{Kind: api.AvroRecord, Name: "R", Fields: []api.AvroField{{Name: "a", Type: 1}, {Name: "a", Type: 2}}}, null, null),
		"a name twice":              nodes(of(api.AvroUnion, 1, 2), fixed(1), fixed(1)),
		"a default that is none":    defaulted,
		"too many nodes":            many,
	}
}

// TestWrongSchemas: P11.1, P11.2: ErrAvro of a schema that may not be, of each call, ahead of all other errors.
func TestWrongSchemas(t *testing.T) {
	values := []api.Datum{{}, {Kind: 20}, short(1), fields(), fields(null()), list(), list(list()), dicted(), branch(0, null()), branch(0, branch(0, null())), fix(""), symbol(0), {Kind: api.AvroNull, Bool: true}, list(make([]api.Datum, api.MaxData)...)}
	for what, s := range wrong() {
		if avro.Check(s) != api.ErrAvro {
			t.Errorf("the tests' schema: %s", what)
		}
		for _, d := range values {
			for _, node := range []int{0, 1, -1, len(s.Nodes), 1 << 40, math.MaxInt, math.MinInt} {
				if e := avrocodec.Check(s, node, d); e != api.ErrAvro {
					t.Errorf("P11.1: Check, %s: %d", what, e)
				}
			}
			if b, e := avrocodec.Encode(s, d); e != api.ErrAvro || len(b) != 0 {
				t.Errorf("P11.1: Encode, %s: %v, %d", what, b, e)
			}
			if n, e := avrocodec.Size(s, d); e != api.ErrAvro || n != 0 {
				t.Errorf("P11.1: Size, %s: %d, %d", what, n, e)
			}
		}
		for _, b := range [][]byte{nil, {}, {0}, {2, 0}, {255}, make([]byte, 100), []byte(strings.Repeat("\x02", 100))} {
			for _, node := range []int{0, 1, -1, len(s.Nodes), 1 << 40, math.MaxInt, math.MinInt} {
				if d, n, e := avrocodec.Take(s, node, b); e != api.ErrAvro || n != 0 || !same(d, api.Datum{}) {
					t.Errorf("P11.2: Take, %s: %s, %d, %d", what, show(d), n, e)
				}
			}
			if d, e := avrocodec.Decode(s, b); e != api.ErrAvro || !same(d, api.Datum{}) {
				t.Errorf("P11.2: Decode, %s: %s, %d", what, show(d), e)
			}
		}
	}
}

// TestWrongNodes: P11.1, P11.2: ErrRange of a node that is not there, whatever the value, the bytes.
func TestWrongNodes(t *testing.T) {
	for _, of := range []string{`"null"`, `"int"`, array(`"null"`), record("R", `"int"`, array(`"string"`)), everyKind()} {
		s := made(of)
		for _, node := range []int{-1, -2, len(s.Nodes), len(s.Nodes) + 1, 255, 256, 1 << 32, -1 << 32, math.MaxInt, math.MinInt} {
			for _, d := range []api.Datum{{}, short(1), list(), {Kind: 20}, {Bool: true}, list(make([]api.Datum, api.MaxData)...)} {
				if e := avrocodec.Check(s, node, d); e != api.ErrRange {
					t.Errorf("P11.1: Check, node %d of %d: %d", node, len(s.Nodes), e)
				}
			}
			for _, b := range [][]byte{nil, {}, {0}, {255}, {2, 2, 0}} {
				if d, n, e := avrocodec.Take(s, node, b); e != api.ErrRange || n != 0 || !same(d, api.Datum{}) {
					t.Errorf("P11.2: Take, node %d of %d: %s, %d, %d", node, len(s.Nodes), show(d), n, e)
				}
			}
		}
	}
	// The last node is there.
	s := made(record("R", `"int"`, array(`"string"`)))
	codes(t, s, len(s.Nodes)-1, text("a"), join(2, "a"))
	refuses(t, s, len(s.Nodes)-1, short(1))
	unread(t, s, len(s.Nodes)-1, nil)
}

// TestAnySchema: P11.1, P11.2: a schema need not be one that a text of layer 9's bounds tells: it may be as deep as it has nodes.
func TestAnySchema(t *testing.T) {
	s := api.Avro{}
	for i := range 254 {
		s.Nodes = append(s.Nodes, of([]api.AvroKind{api.AvroList, api.AvroUnion, api.AvroMap, api.AvroUnion}[i%4], i+1))
	}
	s.Nodes = append(s.Nodes, api.AvroNode{Kind: api.AvroFixed, Name: "F", Size: 2}, of(api.AvroInt))
	s.Nodes[253].Kids = append(s.Nodes[253].Kids, 255)
	codes(t, s, 0, list(), []byte{0})
	codes(t, s, 0, list(branch(0, dicted("a", branch(0, list()), "", branch(0, list())))), join(2, 0, 4, 2, "a", 0, 0, 0, 0, 0, 0, 0))
	codes(t, s, 253, branch(0, fix("ab")), join(0, "ab"))
	codes(t, s, 253, branch(1, short(-1)), join(2, 1))
	codes(t, s, 252, list(branch(1, short(-1)), branch(0, fix("ab"))), join(4, 2, 1, 0, "ab", 0))
	codes(t, s, 251, branch(0, list()), join(0, 0))
	codes(t, s, 250, dicted("k", branch(0, list(branch(1, short(1))))), join(2, 2, "k", 0, 2, 2, 2, 0, 0))
	codes(t, s, 255, short(1), []byte{2})
	codes(t, s, 254, fix("ab"), []byte("ab"))
	refuses(t, s, 255, fix("ab"))
	refuses(t, s, 254, short(1))
}
