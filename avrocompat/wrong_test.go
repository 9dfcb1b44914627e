package avrocompat_test

import (
	"math"
	"testing"

	"lexicon/api"
	"lexicon/avro"
	"lexicon/avrocompat"
)

// wrong are schemas that may not be.
func wrong() map[string]api.Avro {
	nodes := func(l ...api.AvroNode) api.Avro { return api.Avro{Nodes: l} }
	of := func(kind api.AvroKind, kids ...int) api.AvroNode { return api.AvroNode{Kind: kind, Kids: kids} }
	rec := func(name string, f ...api.AvroField) api.AvroNode {
		return api.AvroNode{Kind: api.AvroRecord, Name: name, Fields: f}
	}
	null := of(api.AvroNull)
	return map[string]api.Avro{
		"none":                     {},
		"no nodes, a root":         {Root: 1},
		"a root below":             {Nodes: []api.AvroNode{null}, Root: -1},
		"a root past the last":     {Nodes: []api.AvroNode{null}, Root: 1},
		"a root that is not 0":     {Nodes: []api.AvroNode{of(api.AvroList, 1), null}, Root: 1},
		"a list of itself":         nodes(of(api.AvroList, 0)),
		"a union of itself":        nodes(of(api.AvroUnion, 0)),
		"two that lead round":      nodes(of(api.AvroUnion, 1), of(api.AvroUnion, 0)),
		"a map that leads nowhere": nodes(of(api.AvroMap, 1)),
		"a list that leads below":  nodes(of(api.AvroList, -1)),
		"a field that leads away":  nodes(rec("R", api.AvroField{Name: "a", Type: 7})),
		"a list of none":           nodes(of(api.AvroList)),
		"a union of none":          nodes(of(api.AvroUnion)),
		"a union in a union":       nodes(of(api.AvroUnion, 1), of(api.AvroUnion, 2), null),
		"a kind twice":             nodes(of(api.AvroUnion, 1, 2), null, null),
		"a kind below":             nodes(of(-1)),
		"a kind above":             nodes(of(14)),
		"a kind far above":         nodes(of(math.MaxInt)),
		"a node that is not met":   nodes(null, null),
		"a name that is none":      nodes(rec("1R")),
		"no name":                  nodes(rec("")),
		"a size below 0":           nodes(api.AvroNode{Kind: api.AvroFixed, Name: "F", Size: -1}),
		"no symbols":               nodes(api.AvroNode{Kind: api.AvroEnum, Name: "E"}),
		"a default that is none":   nodes(api.AvroNode{Kind: api.AvroEnum, Name: "E", Symbols: []string{"A"}, Has: true, Default: "B"}),
		"a field twice":            nodes(rec("R", api.AvroField{Name: "a", Type: 1}, api.AvroField{Name: "a", Type: 2}), null, null),
		"a default of another":     nodes(rec("R", api.AvroField{Name: "a", Type: 1, Has: true}), of(api.AvroInt)),
		"a default that may not be": nodes(rec("R", api.AvroField{Name: "a", Type: 1, Has: true, Default: api.JSON{Kind: api.JSONText, Text: "\xff"}}),
			of(api.AvroText)),
		"a default that is not there": nodes(rec("R", api.AvroField{Name: "a", Type: 1, Default: api.JSON{Kind: api.JSONNumber}}), of(api.AvroInt)),
	}
}

// isNone complains if a call does not answer ErrAvro, and nothing beside it, of two schemas, one of which may not be.
func isNone(t *testing.T, what string, r, w api.Avro) {
	t.Helper()
	if ok, e := avrocompat.Reads(r, w); ok || e != api.ErrAvro {
		t.Errorf("P13.1: Reads, %s: %t, %d", what, ok, e)
	}
	if l, e := avrocompat.Path(r, w); len(l) > 0 || e != api.ErrAvro {
		t.Errorf("P13.2: Path, %s: %s, %d", what, show(l), e)
	}
	if d, e := avrocompat.Witness(r, w); !same(d, api.Datum{}) || e != api.ErrAvro {
		t.Errorf("P13.2: Witness, %s: %s, %d", what, show(d), e)
	}
	if f, b, e := avrocompat.Both(r, w); f || b || e != api.ErrAvro {
		t.Errorf("P13.1: Both, %s: %t, %t, %d", what, f, b, e)
	}
}

// TestWrongSchemas: P13.1, P13.2: ErrAvro of a schema that may not be, the writer's or the reader's, ahead of ErrNone and ErrLong.
func TestWrongSchemas(t *testing.T) {
	deep := doubling(100, 1)
	for what, s := range wrong() {
		if avro.Check(s) != api.ErrAvro {
			t.Errorf("the tests' schema: %s", what)
		}
		isNone(t, what, s, s)
		for _, right := range []api.Avro{made(`"null"`), made(record("R", field("a", union(`"null"`, `"R"`)))), made(record("R", field("r", `"R"`))), deep} {
			isNone(t, what+", the reader's", s, right)
			isNone(t, what+", the writer's", right, s)
		}
		if l, e := avrocompat.Values(s); len(l) > 0 || e != api.ErrAvro {
			t.Errorf("P13.1: Values, %s: %v, %d", what, l, e)
		}
	}
}

// TestErrorsInOrder: P13.2: ErrNone ahead of ErrLong: values that are too great are no witnesses, if they are read.
func TestErrorsInOrder(t *testing.T) {
	w := right(t, doubling(100, 1))
	reads(t, w, w)
	reads(t, w, made(record("R")))
	long(t, w, made(record("S")))
	long(t, w, right(t, doubling(100, 2)))
	reads(t, w, right(t, doubling(100, 1)))
	// One that has no value is read, however its schema is.
	none := doubling(100, 1)
	none.Nodes[99].Fields[1].Type = 0
	reads(t, right(t, none), made(`"int"`))
}
