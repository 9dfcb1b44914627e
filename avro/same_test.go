package avro_test

import (
	"math"
	"slices"
	"strconv"
	"testing"

	"lexicon/api"
	"lexicon/avro"
)

// same complains if Same answers anything but what is wanted, of two in both orders.
func same(t *testing.T, what string, a, b api.Avro, want bool) {
	t.Helper()
	if avro.Same(a, b) != want || avro.Same(b, a) != want {
		t.Errorf("P9.2: Same, %s: %t, %t", what, avro.Same(a, b), avro.Same(b, a))
	}
}

// TestSame: P9.2: schemas are the same node by node, whether they may be or not.
func TestSame(t *testing.T) {
	s := takes(t, record("a.R", fieldOr("n", `"null"`, "null"), field("i", `"int"`), fieldOr("e", with(enum("E", "A", "B"), `"default":"A"`), `"B"`), field("x", fixed("F", 1)), field("k", array(`"int"`)), field("u", union(`"null"`, `"R"`))))
	odd := edited(s, func(s *api.Avro) {
		s.Root = -5
		for i := range s.Nodes {
			n := &s.Nodes[i]
			n.Kind, n.Kids, n.Symbols, n.Default, n.Size = n.Kind+9, append(n.Kids, -7), append(n.Symbols, "\xff", ""), "x", n.Size+5
			n.Fields = append(n.Fields, api.AvroField{Name: "f", Type: 1 << 40})
		}
	})
	for _, s := range []api.Avro{s, odd, {}, {Root: 3}, nodes(api.AvroNode{}), nodes(api.AvroNode{Kind: -1}), nodes(of(api.AvroList, 0))} {
		same(t, "itself", s, s, true)
		same(t, "another one like it", s, edited(s, func(*api.Avro) {}), true)
		same(t, "another root", s, api.Avro{Nodes: s.Nodes, Root: s.Root + 1}, false)
		same(t, "another root, far away", s, api.Avro{Nodes: s.Nodes, Root: math.MinInt}, false)
		same(t, "a node more", s, api.Avro{Nodes: append(slices.Clone(s.Nodes), api.AvroNode{}), Root: s.Root}, false)
		empty := edited(s, func(s *api.Avro) {
			s.Nodes = append([]api.AvroNode{}, s.Nodes...)
			for i := range s.Nodes {
				n := &s.Nodes[i]
				n.Fields, n.Symbols, n.Kids = append([]api.AvroField{}, n.Fields...), append([]string{}, n.Symbols...), append([]int{}, n.Kids...)
			}
		})
		same(t, "empty lists", s, empty, true)
		for at := range s.Nodes {
			node := func(what string, edit func(n *api.AvroNode)) {
				t.Helper()
				same(t, what+", node "+strconv.Itoa(at), s, edited(s, func(s *api.Avro) { edit(&s.Nodes[at]) }), false)
			}
			node("a kind", func(n *api.AvroNode) { n.Kind++ })
			node("a kind, far away", func(n *api.AvroNode) { n.Kind += 1 << 32 })
			node("a name", func(n *api.AvroNode) { n.Name += "x" })
			node("a field more", func(n *api.AvroNode) { n.Fields = append(n.Fields, api.AvroField{}) })
			node("a symbol more", func(n *api.AvroNode) { n.Symbols = append(n.Symbols, "") })
			node("Has", func(n *api.AvroNode) { n.Has = !n.Has })
			node("a default", func(n *api.AvroNode) { n.Default += "x" })
			node("a size", func(n *api.AvroNode) { n.Size++ })
			node("a kid more", func(n *api.AvroNode) { n.Kids = append(n.Kids, 0) })
			for i := range s.Nodes[at].Fields {
				node("a field's name", func(n *api.AvroNode) { n.Fields[i].Name += "x" })
				node("a field's type", func(n *api.AvroNode) { n.Fields[i].Type++ })
				node("a field's Has", func(n *api.AvroNode) { n.Fields[i].Has = !n.Fields[i].Has })
			}
			for i := range s.Nodes[at].Symbols {
				node("a symbol", func(n *api.AvroNode) { n.Symbols[i] += "x" })
			}
			for i := range s.Nodes[at].Kids {
				node("a kid", func(n *api.AvroNode) { n.Kids[i]++ })
			}
		}
	}
	b := edited(s, func(s *api.Avro) {
		s.Nodes[0].Fields[0], s.Nodes[0].Fields[1] = s.Nodes[0].Fields[1], s.Nodes[0].Fields[0]
	})
	same(t, "fields in another order", s, b, false)
	same(t, "a node less", s, api.Avro{Nodes: s.Nodes[:len(s.Nodes)-1]}, false)
}

// defaulted is a schema of one record, one field of which has a default; it may be or not.
func defaulted(v api.JSON) api.Avro {
	s := nodes(rec("R", 1, 1), of(api.AvroNull))
	s.Nodes[0].Fields[1].Has, s.Nodes[0].Fields[1].Default = true, v
	return s
}

// TestSameDefaults: P9.2: defaults are the same as layer 8's Equal tells; one that may not be is the same as none, itself neither.
func TestSameDefaults(t *testing.T) {
	for i, v := range pool() {
		for j, w := range pool() {
			same(t, "two values", defaulted(v), defaulted(w), equal(v, w))
			if i == j {
				same(t, "one value", defaulted(v), defaulted(w), true)
			}
		}
		for _, w := range wrongValues() {
			same(t, "a value, and one that may not be", defaulted(v), defaulted(w), false)
		}
	}
	for _, v := range wrongValues() {
		for _, w := range wrongValues() {
			same(t, "two values that may not be", defaulted(v), defaulted(w), false)
		}
		s := defaulted(v)
		same(t, "itself, with a value that may not be", s, s, false)
		s.Nodes[0].Fields[1].Has = false
		same(t, "a value where no default is", s, s, true)
		same(t, "a value where no default is, and none", s, nodes(rec("R", 1, 1), of(api.AvroNull)), true)
	}
	for a, b := range map[string]string{`{"a":1,"b":[2]}`: `{"b":[2.0],"a":10e-1}`, "1.50": "15e-1", "[]": "[ ]", `"\u0041"`: `"A"`, "-0": "0.0"} {
		same(t, a, defaulted(value(a)), defaulted(value(b)), true)
	}
	for a, b := range map[string]string{"[1,2]": "[2,1]", "[]": "{}", "null": "false", "0": `"0"`, `{"a":1}`: `{"A":1}`, `""`: "null", "1": "1.0000000000000001"} {
		same(t, a, defaulted(value(a)), defaulted(value(b)), false)
	}
}

// equal tells whether two values that may be are the same: one of the other's members each, in whatever order.
func equal(a, b api.JSON) bool {
	if a.Kind != b.Kind || a.Bool != b.Bool || a.Number != b.Number || a.Text != b.Text || len(a.List) != len(b.List) {
		return false
	}
	for i, v := range a.List {
		w := b.List[i]
		if a.Kind == api.JSONObject {
			m, ok := get(b, a.Names[i])
			if w = m; !ok {
				return false
			}
		}
		if !equal(v, w) {
			return false
		}
	}
	return true
}
