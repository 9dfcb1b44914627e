package avroresolve_test

import (
	"math"
	"testing"

	"lexicon/api"
	"lexicon/avro"
	"lexicon/avroresolve"
)

// wrong are schemas that may not be.
func wrong() map[string]api.Avro {
	nodes := func(l ...api.AvroNode) api.Avro { return api.Avro{Nodes: l} }
	of := func(kind api.AvroKind, kids ...int) api.AvroNode { return api.AvroNode{Kind: kind, Kids: kids} }
	rec := func(name string, f ...api.AvroField) api.AvroNode {
		return api.AvroNode{Kind: api.AvroRecord, Name: name, Fields: f}
	}
	null := of(api.AvroNull)
	return map[string]api.Avro{
		"none":                     {},
		"no nodes, a root":         {Root: 1},
		"a root below":             {Nodes: []api.AvroNode{null}, Root: -1},
		"a root past the last":     {Nodes: []api.AvroNode{null}, Root: 1},
		"a root that is not 0":     {Nodes: []api.AvroNode{of(api.AvroList, 1), null}, Root: 1},
		"a list of itself":         nodes(of(api.AvroList, 0)),
		"a union of itself":        nodes(of(api.AvroUnion, 0)),
		"two that lead round":      nodes(of(api.AvroUnion, 1), of(api.AvroUnion, 0)),
		"a map that leads nowhere": nodes(of(api.AvroMap, 1)),
		"a list that leads below":  nodes(of(api.AvroList, -1)),
		"a field that leads away":  nodes(rec("R", api.AvroField{Name: "a", Type: 7})),
		"a list of none":           nodes(of(api.AvroList)),
		"a union of none":          nodes(of(api.AvroUnion)),
		"a union in a union":       nodes(of(api.AvroUnion, 1), of(api.AvroUnion, 2), null),
		"a kind twice":             nodes(of(api.AvroUnion, 1, 2), null, null),
		"a kind below":             nodes(of(-1)),
		"a kind above":             nodes(of(14)),
		"a kind far above":         nodes(of(math.MaxInt)),
		"a node that is not met":   nodes(null, null),
		"a name that is none":      nodes(rec("1R")),
		"no name":                  nodes(rec("")),
		"a size below 0":           nodes(api.AvroNode{Kind: api.AvroFixed, Name: "F", Size: -1}),
		"no symbols":               nodes(api.AvroNode{Kind: api.AvroEnum, Name: "E"}),
		"a default that is none":   nodes(api.AvroNode{Kind: api.AvroEnum, Name: "E", Symbols: []string{"A"}, Has: true, Default: "B"}),
		"a field twice":            nodes(rec("R", api.AvroField{Name: "a", Type: 1}, api.AvroField{Name: "a", Type: 2}), null, null),
		"a default of another":     nodes(rec("R", api.AvroField{Name: "a", Type: 1, Has: true}), of(api.AvroInt)),
		"a default that may not be": nodes(rec("R", api.AvroField{Name: "a", Type: 1, Has: true, Default: api.JSON{Kind: api.JSONText, Text: "\xff"}}),
			of(api.AvroText)),
		"a default that is not there": nodes(rec("R", api.AvroField{Name: "a", Type: 1, Default: value("1")}), of(api.AvroInt)),
	}
}

// isErr complains if a call does not answer that error, and nothing beside it.
func isErr(t *testing.T, what string, d api.Datum, e, want api.Errno) {
	t.Helper()
	if e != want || !same(d, api.Datum{}) {
		t.Errorf("%s: %s, %d; not %d", what, show(d), e, want)
	}
}

// notBranch complains if Branch does not answer that error.
func notBranch(t *testing.T, w, r api.Avro, node, union int, want api.Errno) {
	t.Helper()
	if at, e := avroresolve.Branch(w, r, node, union); at != 0 || e != want {
		t.Errorf("P12.2: Branch of %s, %s, %d, %d: %d, %d; not %d", show(w), show(r), node, union, at, e, want)
	}
}

// far are numbers of no node of a schema.
func far(s api.Avro) []int {
	return []int{-1, -2, len(s.Nodes), len(s.Nodes) + 1, 256, 1 << 32, -1 << 32, math.MaxInt, math.MinInt}
}

// TestWrongSchemas: P12.1, P12.2: ErrAvro of a schema that may not be, the writer's or the reader's, ahead of all other errors.
func TestWrongSchemas(t *testing.T) {
	right := made(record("R", field("a", union(`"null"`, `"R"`))))
	values := []api.Datum{null(), {Kind: 20}, short(1), fields(), fields(branch(0, null())), list(many(api.MaxData, null())...), {Bool: true}}
	for what, s := range wrong() {
		if avro.Check(s) != api.ErrAvro {
			t.Errorf("the tests' schema: %s", what)
		}
		for _, pair := range [][2]api.Avro{{s, right}, {right, s}, {s, s}} {
			for _, d := range values {
				v, e := avroresolve.Turn(pair[0], pair[1], d)
				isErr(t, "P12.1: Turn, "+what, v, e, api.ErrAvro)
			}
			for _, b := range [][]byte{nil, {0}, {2, 0}, {255, 255}, make([]byte, 100)} {
				v, e := avroresolve.Read(pair[0], pair[1], b)
				isErr(t, "P12.1: Read, "+what, v, e, api.ErrAvro)
			}
			for _, node := range append(far(s), 0, 1) {
				for _, union := range append(far(s), 0, 1) {
					notBranch(t, pair[0], pair[1], node, union, api.ErrAvro)
				}
			}
		}
		for _, node := range append(far(s), 0, 1) {
			for _, v := range append(none(), value("null"), value("1"), value(`{"a":null}`)) {
				d, e := avroresolve.Default(s, node, v)
				isErr(t, "P12.2: Default, "+what, d, e, api.ErrAvro)
			}
		}
	}
}

// TestWrongValues: P12.1: ErrDatum of a value that does not fit the writer's root, ErrCodec of bytes that are none's, ahead of being refused.
func TestWrongValues(t *testing.T) {
	w := made(record("R", field("a", `"int"`), field("b", union(`"null"`, `"string"`))))
	readers := []api.Avro{w, made(`"int"`), made(record("R")), made(record("S")), made(record("R", field("c", `"int"`))), made(record("R", field("a", `"long"`)))}
	good := fields(short(1), branch(1, text("x")))
	for _, r := range readers {
		for _, d := range []api.Datum{
			{}, {Kind: 20}, {Kind: -1}, fields(), fields(short(1)), fields(short(1), null()), fields(long(1), branch(0, null())), fields(short(1<<31), branch(0, null())),
			fields(short(1), branch(2, null())), fields(short(1), branch(-1, null())), fields(short(1), branch(1, text("\xff"))), fields(short(1), branch(0, text("x"))), fields(good, good), list(good),
			{Kind: api.AvroRecord, List: good.List, Int: 1}, {Kind: api.AvroRecord, List: good.List, Bytes: []byte{0}}, fields(short(1), api.Datum{Kind: api.AvroUnion}),
			list(many(api.MaxData, null())...), within(64, null()),
		} {
			v, e := avroresolve.Turn(w, r, d)
			isErr(t, "P12.1: Turn of "+show(d), v, e, api.ErrDatum)
		}
		for _, b := range []string{"", "\x02", "\x02\x04", "\x02\x02\x02", "\x02\x02\x04x", "\x02\x02\x02\xff", "\x02\x00\x00", "\x02\x03", "\xff\xff\xff\xff\xff\xff\xff\xff\xff\xff", "\x80\x80\x80\x80\x10\x00"} {
			v, e := avroresolve.Read(w, r, []byte(b))
			isErr(t, "P12.1: Read of "+b, v, e, api.ErrCodec)
		}
	}
	// A value that fits the reader's alone.
	v, e := avroresolve.Turn(made(`"int"`), made(`"long"`), long(1))
	isErr(t, "P12.1: Turn of a long", v, e, api.ErrDatum)
	v, e = avroresolve.Turn(made(`"null"`), made(`"long"`), long(1))
	isErr(t, "P12.1: Turn of a long", v, e, api.ErrDatum)
	// Too much for layer 11, though it would be passed over.
	w = made(record("R", field("a", array(`"null"`))))
	v, e = avroresolve.Turn(w, made(record("R")), fields(list(many(api.MaxData-1, null())...)))
	isErr(t, "P12.1: Turn of many", v, e, api.ErrDatum)
	v, e = avroresolve.Read(w, made(record("R")), []byte{0x80, 0x80, 0x08, 0})
	isErr(t, "P12.1: Read of many", v, e, api.ErrCodec)
	turns(t, w, made(record("R")), fields(list(many(api.MaxData-2, null())...)), fields())
	// Bytes in several pieces are read as layer 11 does.
	got, e := avroresolve.Read(made(array(`"int"`)), made(array(`"long"`)), []byte{2, 2, 3, 6, 4, 5, 0})
	isErr(t, "P12.1: Read of pieces that are none", got, e, api.ErrCodec)
	got, e = avroresolve.Read(made(array(`"int"`)), made(array(`"long"`)), []byte{2, 2, 3, 4, 4, 128, 0, 0})
	isErr(t, "P12.1: Read of bytes behind", got, e, api.ErrCodec)
	got, e = avroresolve.Read(made(array(`"int"`)), made(array(`"long"`)), []byte{2, 2, 1, 4, 132, 0, 0})
	if want := list(long(1), long(2)); e != api.OK || !same(got, want) {
		t.Errorf("P12.1: Read of pieces: %s, %d", show(got), e)
	}
}

// TestWrongNodes: P12.2: ErrRange of a node that is not there, ahead of what does not fit, of what is no union, and of what is refused.
func TestWrongNodes(t *testing.T) {
	s := made(record("R", field("a", union(`"null"`, `"int"`)), field("b", array(`"string"`)))) // a union is 1, int 3
	for _, node := range far(s) {
		for _, v := range append(none(), value("null"), value("1"), value(`{"a":null,"b":[]}`)) {
			denies(t, s, node, v, api.ErrRange)
		}
		for union := range s.Nodes {
			notBranch(t, s, s, node, union, api.ErrRange)
			notBranch(t, s, s, union, node, api.ErrRange)
		}
		for _, union := range far(s) {
			notBranch(t, s, s, node, union, api.ErrRange)
		}
	}
	// Each of a schema of its own.
	small, great := made(`"int"`), made(union(`"null"`, `"int"`, `"string"`))
	branches(t, small, great, 0, 0, 1)
	branches(t, great, great, 3, 0, 2)
	branches(t, great, made(union(`"long"`)), 2, 0, 0)
	notBranch(t, small, great, 1, 0, api.ErrRange)
	notBranch(t, great, small, 0, 1, api.ErrRange)
	notBranch(t, great, made(union(`"long"`)), 1, 2, api.ErrRange)
}

// TestNoUnion: P12.2: ErrArg of what is no union, ahead of there being no branch; a union has no branch in another.
func TestNoUnion(t *testing.T) {
	s := made(record("R", field("a", union(`"null"`, `"int"`)), field("b", array(`"string"`)), field("c", dict(`"R"`)), field("d", fixed("F", 1)), field("e", enum("E", "A"))))
	for union, n := range s.Nodes {
		for node := range s.Nodes {
			if n.Kind != api.AvroUnion {
				notBranch(t, s, s, node, union, api.ErrArg)
			} else if s.Nodes[node].Kind == api.AvroUnion {
				notBranch(t, s, s, node, union, api.ErrResolve)
			}
		}
	}
	for _, of := range kinds() {
		notBranch(t, made(`"int"`), made(of.of), 0, 0, api.ErrArg)
		notBranch(t, made(union(`"int"`)), made(of.of), 0, 0, api.ErrArg)
	}
}

// TestNoDefault: P12.2: ErrDefault of what does not fit, also of what would be more than may be.
func TestNoDefault(t *testing.T) {
	s := made(array(`"int"`))
	wrong := api.JSON{Kind: api.JSONList, List: make([]api.JSON, 2*api.MaxData)}
	denies(t, s, 0, wrong, api.ErrDefault)
	for i := range wrong.List {
		wrong.List[i] = value("0")
	}
	denies(t, s, 0, wrong, api.ErrResolve)
	wrong.List[2*api.MaxData-1] = value("1.5")
	denies(t, s, 0, wrong, api.ErrDefault)
	denies(t, s, 1, wrong, api.ErrDefault)
	denies(t, s, 2, wrong, api.ErrRange)
}

// TestSchemasBeyond: P12.1: schemas need not be such as a text of layer 9's bounds tells: they may be as deep as they have nodes.
func TestSchemasBeyond(t *testing.T) {
	w, r := api.Avro{}, api.Avro{}
	kinds := []api.AvroKind{api.AvroList, api.AvroUnion, api.AvroMap}
	for i := range 254 {
		w.Nodes = append(w.Nodes, api.AvroNode{Kind: kinds[i%3], Kids: []int{i + 1}})
		r.Nodes = append(r.Nodes, api.AvroNode{Kind: []api.AvroKind{api.AvroList, api.AvroMap}[i%2], Kids: []int{i + 1}})
	}
	w.Nodes, r.Nodes = append(w.Nodes, api.AvroNode{Kind: api.AvroInt}), append(r.Nodes, api.AvroNode{Kind: api.AvroDouble})
	turns(t, w, r, list(), list())
	turns(t, w, r, list(branch(0, dicted("a", list(branch(0, dicted()))))), list(dicted("a", list(dicted()))))
	turns(t, r, w, list(dicted("a", list(dicted()))), list(branch(0, dicted("a", list(branch(0, dicted()))))))
	refuses(t, w, chainOf(255, api.AvroNode{Kind: api.AvroInt}), list(branch(0, dicted())))
}
