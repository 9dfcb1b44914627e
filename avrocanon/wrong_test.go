package avrocanon_test

import (
	"math"
	"slices"
	"strconv"
	"strings"
	"testing"

	"lexicon/api"
	"lexicon/avro"
)

// nodes are a schema of nodes.
func nodes(l ...api.AvroNode) api.Avro { return api.Avro{Nodes: l} }

// of is a node with kids.
func of(kind api.AvroKind, kids ...int) api.AvroNode { return api.AvroNode{Kind: kind, Kids: kids} }

// rec is a record whose fields a, b .. are of these nodes.
func rec(name string, types ...int) api.AvroNode {
	n := api.AvroNode{Kind: api.AvroRecord, Name: name}
	for i, at := range types {
		n.Fields = append(n.Fields, api.AvroField{Name: string(rune('a' + i)), Type: at})
	}
	return n
}

// fix is a fixed one of one byte.
func fix(name string) api.AvroNode { return api.AvroNode{Kind: api.AvroFixed, Name: name, Size: 1} }

// edited is a schema of its own, with an edit.
func edited(s api.Avro, edit func(s *api.Avro)) api.Avro {
	s.Nodes = slices.Clone(s.Nodes)
	for i := range s.Nodes {
		n := &s.Nodes[i]
		n.Fields, n.Symbols, n.Kids = slices.Clone(n.Fields), slices.Clone(n.Symbols), slices.Clone(n.Kids)
	}
	edit(&s)
	return s
}

// TestRoots: P10.1: ErrAvro of a schema whose Root is no 0, or leads nowhere.
func TestRoots(t *testing.T) {
	refuses(t, "none", api.Avro{})
	refuses(t, "no nodes", api.Avro{Nodes: []api.AvroNode{}})
	refuses(t, "no nodes, a root", api.Avro{Root: 1})
	for _, s := range []api.Avro{nodes(of(api.AvroInt)), nodes(of(api.AvroList, 1), of(api.AvroInt)), nodes(rec("R", 1, 0), fix("F")), nodes(of(api.AvroUnion, 1, 2), fix("a.F"), fix("F"))} {
		for _, root := range []int{1, 2, len(s.Nodes) - 1, len(s.Nodes), -1, 256, 1 << 32, math.MaxInt, math.MinInt} {
			if root != 0 {
				refuses(t, "root "+strconv.Itoa(root), api.Avro{Nodes: s.Nodes, Root: root})
			}
		}
		normal, canon, _ := modelled(s)
		tells(t, s, normal, canon)
	}
}

// TestWrong: P10.1: ErrAvro of a schema that may not be, whatever is wrong in it.
func TestWrong(t *testing.T) {
	null := of(api.AvroNull)
	for what, s := range map[string]api.Avro{
		"nodes out of order":                  nodes(of(api.AvroUnion, 2, 1), null, of(api.AvroInt)),
		"named ones out of order":             nodes(rec("R", 2, 1), fix("F"), fix("G")),
		"a node that is not met":              nodes(null, null),
		"a named node that is not met":        nodes(rec("R"), fix("F")),
		"a plain one met twice":               nodes(rec("R", 1, 1), null),
		"a union met twice":                   nodes(rec("R", 1, 1), of(api.AvroUnion, 2), null),
		"a list of itself":                    nodes(of(api.AvroList, 0)),
		"a map of itself":                     nodes(of(api.AvroMap, 0)),
		"a union of itself":                   nodes(of(api.AvroUnion, 0)),
		"a list that leads nowhere":           nodes(of(api.AvroList, 1)),
		"a map that leads below":              nodes(of(api.AvroMap, -1)),
		"a list of none":                      nodes(of(api.AvroList)),
		"a list of two":                       nodes(of(api.AvroList, 1, 2), null, null),
		"a union of none":                     nodes(of(api.AvroUnion)),
		"a union in a union":                  nodes(of(api.AvroUnion, 1), of(api.AvroUnion, 2), null),
		"a union of one kind twice":           nodes(of(api.AvroUnion, 1, 2), null, null),
		"a field that leads nowhere":          nodes(rec("R", 1)),
		"a kind below":                        nodes(of(-1)),
		"a kind above":                        nodes(of(14)),
		"a plain one with a name":             nodes(api.AvroNode{Name: "a.F"}),
		"a plain one with a size":             nodes(api.AvroNode{Size: 1}),
		"a plain one with a kid":              nodes(of(api.AvroInt, 0)),
		"a list with a name":                  nodes(api.AvroNode{Kind: api.AvroList, Name: "L", Kids: []int{1}}, null),
		"no name":                             nodes(fix("")),
		"a name that is none":                 nodes(fix("a..F")),
		"a name that is no UTF-8":             nodes(fix("\xff")),
		"a plain one's name":                  nodes(fix("int")),
		"one name twice":                      nodes(rec("R", 1, 2), fix("a.F"), fix("a.F")),
		"a long name":                         nodes(fix(strings.Repeat("F", 129))),
		"a size below 0":                      nodes(api.AvroNode{Kind: api.AvroFixed, Name: "F", Size: -1}),
		"a great size":                        nodes(api.AvroNode{Kind: api.AvroFixed, Name: "F", Size: 1<<16 + 1}),
		"no symbols":                          nodes(api.AvroNode{Kind: api.AvroEnum, Name: "E"}),
		"a symbol that is none":               nodes(api.AvroNode{Kind: api.AvroEnum, Name: "E", Symbols: []string{"A-"}}),
		"one symbol twice":                    nodes(api.AvroNode{Kind: api.AvroEnum, Name: "E", Symbols: []string{"A", "A"}}),
		"a default that is no symbol":         nodes(api.AvroNode{Kind: api.AvroEnum, Name: "E", Symbols: []string{"A"}, Has: true, Default: "B"}),
		"an enum's default that it has not":   nodes(api.AvroNode{Kind: api.AvroEnum, Name: "E", Symbols: []string{"A"}, Default: "A"}),
		"one without a space again in one":    nodes(rec("a.R", 1, 1), fix("F")),
		"a record without a space, likewise":  nodes(rec("R", 1), rec("a.S", 0)),
		"one without a space again in a list": nodes(of(api.AvroUnion, 1, 2), fix("F"), rec("a.R", 3), of(api.AvroList, 1)),
	} {
		refuses(t, what, s)
	}
}

// TestWrongDefaults: P10.1: ErrAvro of a schema with a field's default that does not fit, or may not be.
func TestWrongDefaults(t *testing.T) {
	deep := api.JSON{Kind: api.JSONList}
	for range 64 {
		deep = api.JSON{Kind: api.JSONList, List: []api.JSON{deep}}
	}
	// The field f of node 1, a map of what many records can be of.
	s := nodes(rec("R", 1), of(api.AvroMap, 2), of(api.AvroText))
	object := api.JSON{Kind: api.JSONObject, Names: []string{"b", "a"}, List: []api.JSON{{Kind: api.JSONText}, {Kind: api.JSONText, Text: "x"}}}
	for what, x := range map[string]struct {
		v     api.JSON
		right bool
	}{
		"an object":             {object, true},
		"null":                  {api.JSON{}, false},
		"a text":                {api.JSON{Kind: api.JSONText}, false},
		"a list":                {api.JSON{Kind: api.JSONList, List: object.List}, false},
		"a name too few":        {api.JSON{Kind: api.JSONObject, Names: []string{"a"}, List: object.List}, false},
		"one name twice":        {api.JSON{Kind: api.JSONObject, Names: []string{"a", "a"}, List: object.List}, false},
		"a name no UTF-8":       {api.JSON{Kind: api.JSONObject, Names: []string{"a", "\xff"}, List: object.List}, false},
		"a text no UTF-8":       {api.JSON{Kind: api.JSONObject, Names: []string{"a"}, List: []api.JSON{{Kind: api.JSONText, Text: "\xff"}}}, false},
		"what it does not name": {api.JSON{Kind: api.JSONObject, Names: []string{"a"}, List: []api.JSON{{Kind: api.JSONText, Bool: true}}}, false},
		"a kind that is none":   {api.JSON{Kind: 6}, false},
		"too deep":              {deep, false},
		"too long":              {api.JSON{Kind: api.JSONObject, Names: []string{"a"}, List: []api.JSON{{Kind: api.JSONText, Text: strings.Repeat("a", api.MaxText)}}}, false},
	} {
		b := edited(s, func(s *api.Avro) { s.Nodes[0].Fields[0].Has, s.Nodes[0].Fields[0].Default = true, x.v })
		if x.right {
			tells(t, b, record("R", fieldOr("a", dict(`"string"`), `{"a":"x","b":""}`)), record("R", field("a", dict(`"string"`))))
		} else {
			refuses(t, "a default, "+what, b)
		}
		if x.v.Kind != api.JSONNull {
			b.Nodes[0].Fields[0].Has = false
			refuses(t, "a default that is not there, "+what, b)
		}
	}
}

// TestWrongEdits: P10.1: each call refuses just what layer 9's Check refuses, and tells all else, in schemas with edits of no plain order.
func TestWrongEdits(t *testing.T) {
	right, wrong := 0, 0
	for seed := range uint64(4_000) {
		g := &maker{next: numbers(seed)}
		s := g.whole(3)
		for range 4 {
			b := edited(s, g.edit)
			if avro.Check(b) != api.OK {
				wrong++
				refuses(t, "an edit", b)
				continue
			}
			right++
			n, c, _ := modelled(b)
			tells(t, b, n, c)
		}
	}
	if right < 2000 || wrong < 2000 {
		t.Errorf("the tests' schemas: %d, %d", right, wrong)
	}
}
