package avro_test

import (
	"math"
	"slices"
	"strconv"
	"strings"
	"testing"

	"lexicon/api"
	"lexicon/avro"
	"lexicon/decimal"
	"lexicon/jsontext"
)

// checked is what the chapter's words ask of Check: told as a value of JSON, and read again, a schema must be what it was.
func checked(s api.Avro) api.Errno {
	w := &teller{s: s, met: map[int]bool{}, right: true}
	v := w.tell(s.Root)
	if !w.right {
		return api.ErrAvro
	}
	m := &model{defined: map[string]*type_{}}
	if back, e := m.value(v); e != api.OK || !identical(back, s) {
		return api.ErrAvro
	}
	return api.OK
}

// teller tells a schema's nodes as values, till it meets what can't be told.
type teller struct {
	s     api.Avro
	met   map[int]bool
	right bool
}

// tell is a node's value.
func (w *teller) tell(at int) api.JSON {
	if at < 0 || at >= len(w.s.Nodes) || !w.right {
		w.right = false
		return api.JSON{}
	}
	n := w.s.Nodes[at]
	object := func(l ...any) api.JSON {
		v := api.JSON{Kind: api.JSONObject}
		for i := 0; i < len(l); i += 2 {
			v.Names, v.List = append(v.Names, l[i].(string)), append(v.List, l[i+1].(api.JSON))
		}
		return v
	}
	list := func(l []api.JSON) api.JSON { return api.JSON{Kind: api.JSONList, List: l} }
	named := n.Kind == 8 || n.Kind == 9 || n.Kind == 10
	if w.met[at] {
		w.right = named // any other one would be read as a new node
		return text(n.Name)
	}
	w.met[at] = true
	var l []api.JSON
	v := object("name", text(n.Name), "type", text([]string{"record", "enum", "fixed", ""}[max(0, min(int(n.Kind)-8, 3))]))
	if named && !strings.Contains(n.Name, ".") {
		v.Names, v.List = append(v.Names, "namespace"), append(v.List, text(""))
	}
	put := func(name string, m api.JSON) { v.Names, v.List = append(v.Names, name), append(v.List, m) }
	switch n.Kind {
	case 0, 1, 2, 3, 4, 5, 6, 7:
		return text(plain[n.Kind])
	case 8:
		for _, f := range n.Fields {
			m := object("name", text(f.Name), "type", w.tell(f.Type))
			if f.Has {
				m.Names, m.List = append(m.Names, "default"), append(m.List, f.Default)
			}
			w.right = w.right && (!f.Has || jsontext.Check(f.Default) == api.OK)
			l = append(l, m)
		}
		put("fields", list(l))
	case 9:
		for _, s := range n.Symbols {
			l = append(l, text(s))
		}
		put("symbols", list(l))
		if n.Has {
			put("default", text(n.Default))
		}
	case 10:
		put("size", api.JSON{Kind: api.JSONNumber, Number: decimal.FromInt(int64(n.Size))})
	case 11, 12:
		if len(n.Kids) != 1 {
			w.right = false
			return api.JSON{}
		}
		return object("type", text([]string{"array", "map"}[n.Kind-11]), []string{"items", "values"}[n.Kind-11], w.tell(n.Kids[0]))
	case 13:
		for _, kid := range n.Kids {
			l = append(l, w.tell(kid))
		}
		return list(l)
	default:
		w.right = false
	}
	return v
}

// identical tells whether two schemas are the same in each part of them.
func identical(a, b api.Avro) bool {
	var values func(a, b api.JSON) bool
	values = func(a, b api.JSON) bool {
		return a.Kind == b.Kind && a.Bool == b.Bool && a.Number == b.Number && a.Text == b.Text && slices.Equal(a.Names, b.Names) && slices.EqualFunc(a.List, b.List, values)
	}
	fields := func(a, b api.AvroField) bool {
		return a.Name == b.Name && a.Type == b.Type && a.Has == b.Has && values(a.Default, b.Default)
	}
	return a.Root == b.Root && slices.EqualFunc(a.Nodes, b.Nodes, func(a, b api.AvroNode) bool {
		return a.Kind == b.Kind && a.Name == b.Name && slices.EqualFunc(a.Fields, b.Fields, fields) && slices.Equal(a.Symbols, b.Symbols) && a.Has == b.Has && a.Default == b.Default && a.Size == b.Size && slices.Equal(a.Kids, b.Kids)
	})
}

// checks complains if Check answers anything but what is wanted, or if others tell of a schema that may not be.
func checks(t *testing.T, what string, s api.Avro, want api.Errno) {
	t.Helper()
	if want != api.OK {
		want = api.ErrAvro
	}
	if e := avro.Check(s); e != want {
		t.Errorf("P9.1: Check, %s: %d, not %d: %.500s", what, e, want, show(s))
	}
	if e := checked(s); e != want {
		t.Errorf("the tests' own check, %s: %d, not %d: %.500s", what, e, want, show(s))
	}
	if want == api.OK {
		return
	}
	l := avro.Names(s)
	for at, n := range s.Nodes[:min(len(s.Nodes), 4)] {
		if i, ok := avro.Find(s, n.Name); l != nil || i != 0 || ok {
			t.Errorf("P9.2: Names, Find, %s: %v, %d, %t", what, l, i, ok)
		}
		for _, v := range []api.JSON{{}, text("A"), value("1"), value("[]"), value("{}")} {
			if avro.Fits(s, at, v) {
				t.Errorf("P9.2: Fits, %s, node %d", what, at)
			}
		}
	}
}

// nodes are a schema of nodes.
func nodes(l ...api.AvroNode) api.Avro { return api.Avro{Nodes: l} }

// of is a node with kids.
func of(kind api.AvroKind, kids ...int) api.AvroNode { return api.AvroNode{Kind: kind, Kids: kids} }

// rec is a record whose fields a, b .. are of these nodes.
func rec(name string, types ...int) api.AvroNode {
	n := api.AvroNode{Kind: api.AvroRecord, Name: name}
	for i, at := range types {
		n.Fields = append(n.Fields, api.AvroField{Name: string(rune('a' + i)), Type: at})
	}
	return n
}

// fix is a fixed one of one byte.
func fix(name string) api.AvroNode { return api.AvroNode{Kind: api.AvroFixed, Name: name, Size: 1} }

// TestCheckOrder: P9.1: nodes must stand in their order, each be met, and lead somewhere.
func TestCheckOrder(t *testing.T) {
	null, num := of(api.AvroNull), of(api.AvroInt)
	for what, s := range map[string]api.Avro{
		"one":                     nodes(null),
		"a list":                  nodes(of(api.AvroList, 1), null),
		"a union":                 nodes(of(api.AvroUnion, 1, 2), null, num),
		"depth first":             nodes(of(api.AvroUnion, 1, 3), of(api.AvroList, 2), null, of(api.AvroMap, 4), num),
		"a record of itself":      nodes(rec("R", 0)),
		"two records":             nodes(rec("R", 1, 0, 1), rec("S", 0, 1)),
		"a union of what was met": nodes(rec("R", 1), of(api.AvroUnion, 2, 0), null),
		"one anew each time":      nodes(rec("R", 1, 2, 3), null, null, of(api.AvroList, 4), null),
		"empty lists":             nodes(api.AvroNode{Kind: api.AvroList, Kids: []int{1}, Fields: []api.AvroField{}, Symbols: []string{}}, api.AvroNode{Kind: api.AvroInt, Kids: []int{}, Fields: []api.AvroField{}, Symbols: []string{}}),
	} {
		checks(t, what, s, api.OK)
		for _, root := range []int{1, -1, 2, len(s.Nodes) - 1, len(s.Nodes), math.MaxInt, math.MinInt, 1 << 32} {
			if root != 0 {
				checks(t, what+", another root", api.Avro{Nodes: s.Nodes, Root: root}, api.ErrAvro)
			}
		}
		checks(t, what+", and one more", nodes(append(slices.Clone(s.Nodes), null)...), api.ErrAvro)
		checks(t, what+", and a named one more", nodes(append(slices.Clone(s.Nodes), fix("G"))...), api.ErrAvro)
		checks(t, what+", behind another one", nodes(append([]api.AvroNode{null}, s.Nodes...)...), api.ErrAvro)
		for at, n := range s.Nodes {
			for _, to := range []int{-1, -2, len(s.Nodes), len(s.Nodes) + 1, 1 << 32, math.MaxInt, math.MinInt, 256} {
				for i := range n.Kids {
					checks(t, what+", a kid that leads nowhere", edited(s, func(s *api.Avro) { s.Nodes[at].Kids[i] = to }), api.ErrAvro)
				}
				for i := range n.Fields {
					checks(t, what+", a field that leads nowhere", edited(s, func(s *api.Avro) { s.Nodes[at].Fields[i].Type = to }), api.ErrAvro)
				}
			}
		}
	}
	for what, s := range map[string]api.Avro{
		"none":                                    {},
		"none, but a root":                        {Root: 1},
		"out of order":                            nodes(of(api.AvroUnion, 2, 1), null, num),
		"breadth first":                           nodes(of(api.AvroUnion, 1, 2), of(api.AvroList, 3), of(api.AvroMap, 4), null, num),
		"a plain one met twice":                   nodes(rec("R", 1, 1), null),
		"a list met twice":                        nodes(rec("R", 1, 1), of(api.AvroList, 2), null),
		"a list of itself":                        nodes(of(api.AvroList, 0)),
		"a map of itself":                         nodes(of(api.AvroMap, 0)),
		"a union of itself":                       nodes(of(api.AvroUnion, 0)),
		"lists of each other":                     nodes(of(api.AvroList, 1), of(api.AvroMap, 0)),
		"a union of a list of it":                 nodes(of(api.AvroUnion, 1), of(api.AvroList, 0)),
		"a list met again in a record":            nodes(of(api.AvroList, 1), rec("R", 0)),
		"a named one ahead of the one that leads": nodes(of(api.AvroUnion, 2, 1), fix("F"), rec("R", 1)),
		"named ones swapped":                      nodes(rec("R", 2, 1), fix("F"), fix("G")),
		"one that itself alone meets":             nodes(null, rec("R", 1)),
		"one that nothing meets between":          nodes(of(api.AvroList, 2), num, null),
	} {
		checks(t, what, s, api.ErrAvro)
	}
}

// edits are edits of a node that make it one that may not be, whatever kind it has.
func edits() map[string]func(n *api.AvroNode) {
	isKind := func(n *api.AvroNode, kind api.AvroKind) bool { return n.Kind == kind }
	return map[string]func(n *api.AvroNode){
		"a kind below":       func(n *api.AvroNode) { n.Kind = -1 },
		"a kind above":       func(n *api.AvroNode) { n.Kind = 14 },
		"the greatest kind":  func(n *api.AvroNode) { n.Kind = math.MaxInt },
		"the least kind":     func(n *api.AvroNode) { n.Kind = math.MinInt },
		"a kind and 32 bits": func(n *api.AvroNode) { n.Kind += 1 << 32 },
		"a name, or none": func(n *api.AvroNode) {
			if n.Name = "x.Y"; n.Kind >= api.AvroRecord && n.Kind <= api.AvroFixed {
				n.Name = ""
			}
		},
		"a field, or none": func(n *api.AvroNode) {
			if n.Fields = []api.AvroField{{Name: "a"}}; isKind(n, api.AvroRecord) {
				n.Fields = nil
			}
		},
		"a zero field": func(n *api.AvroNode) { n.Fields = append(n.Fields, api.AvroField{}) },
		"a symbol, or none": func(n *api.AvroNode) {
			if n.Symbols = []string{"A"}; isKind(n, api.AvroEnum) {
				n.Symbols, n.Has, n.Default = nil, false, ""
			}
		},
		"an empty symbol":             func(n *api.AvroNode) { n.Symbols = append(n.Symbols, "") },
		"an empty default":            func(n *api.AvroNode) { n.Has, n.Default = true, "" },
		"a default's text":            func(n *api.AvroNode) { n.Has, n.Default = false, "A" },
		"a default that is no symbol": func(n *api.AvroNode) { n.Has, n.Default = true, "C" },
		"a default": func(n *api.AvroNode) {
			if n.Has, n.Default = true, "A"; isKind(n, api.AvroEnum) {
				n.Symbols = []string{"B"}
			}
		},
		"a great size":   func(n *api.AvroNode) { n.Size = 1<<16 + 1 },
		"a size below 0": func(n *api.AvroNode) { n.Size = -1 },
		"a kid":          func(n *api.AvroNode) { n.Kids = append(n.Kids, 0) },
		"a kid, or none": func(n *api.AvroNode) {
			if n.Kids = []int{1}; n.Kind >= api.AvroList {
				n.Kids = nil
			}
		},
	}
}

// TestCheckKinds: P9.1: a node has what its kind names, and nothing else.
func TestCheckKinds(t *testing.T) {
	s := takes(t, record("a.R", fieldOr("n", `"null"`, "null"), field("b", `"boolean"`), field("i", `"int"`), field("l", `"long"`), field("f", `"float"`), field("d", `"double"`), field("y", `"bytes"`), field("s", `"string"`), field("e", with(enum("E", "A", "B"), `"default":"A"`)), field("g", enum("b.G", "A")), field("x", fixed("F", 1)), field("k", array(`"int"`)), field("m", dict(`"F"`)), field("u", union(`"null"`, `"R"`))))
	checks(t, "all kinds", s, api.OK)
	for at, n := range s.Nodes {
		for what, edit := range edits() {
			checks(t, what+", node "+strconv.Itoa(at), edited(s, func(s *api.Avro) { edit(&s.Nodes[at]) }), api.ErrAvro)
		}
		for kind := range api.AvroUnion + 1 {
			e := api.ErrAvro
			isOther := kind < 8 && n.Kind < 8 && at > 1 // the field of node 1 has a default
			if kind == n.Kind || isOther || kind > 10 && (n.Kind == 11 || n.Kind == 12) {
				e = api.OK
			}
			checks(t, "the kind "+strconv.Itoa(int(kind))+", node "+strconv.Itoa(at), edited(s, func(s *api.Avro) { s.Nodes[at].Kind = kind }), e)
		}
		if n.Kind == api.AvroEnum {
			checks(t, "another default", edited(s, func(s *api.Avro) { s.Nodes[at].Has, s.Nodes[at].Default = true, "A" }), api.OK)
			checks(t, "no default", edited(s, func(s *api.Avro) { s.Nodes[at].Has, s.Nodes[at].Default = false, "" }), api.OK)
		}
	}
	for size, e := range map[int]api.Errno{0: api.OK, 1: api.OK, 1 << 16: api.OK, 1<<16 + 1: api.ErrAvro, -1: api.ErrAvro, math.MaxInt: api.ErrAvro, math.MinInt: api.ErrAvro, 1 << 32: api.ErrAvro} {
		n := fix("F")
		n.Size = size
		checks(t, "size "+strconv.Itoa(size), nodes(n), e)
	}
	for n := range 258 {
		enum, record, e := api.AvroNode{Kind: api.AvroEnum, Name: "E"}, rec("R"), api.OK
		for i := range n {
			enum.Symbols = append(enum.Symbols, "S"+strconv.Itoa(i))
			record.Fields = append(record.Fields, api.AvroField{Name: "f" + strconv.Itoa(i)})
		}
		if n > 256 {
			e = api.ErrAvro
		}
		checks(t, strconv.Itoa(n)+" fields", nodes(record), e)
		if n == 0 {
			e = api.ErrAvro
		}
		checks(t, strconv.Itoa(n)+" symbols", nodes(enum), e)
	}
}

// TestCheckUnions: P9.1: a union has a branch, none of them a union, no two of one kind, but for named ones.
func TestCheckUnions(t *testing.T) {
	plains := func(kinds ...api.AvroKind) api.Avro {
		s := nodes(of(api.AvroUnion))
		for i, kind := range kinds {
			s.Nodes = append(s.Nodes, of(kind))
			s.Nodes[0].Kids = append(s.Nodes[0].Kids, i+1)
		}
		return s
	}
	checks(t, "no branch", plains(), api.ErrAvro)
	for a := range api.AvroRecord {
		checks(t, "one branch", plains(a), api.OK)
		for b := range api.AvroRecord {
			e := api.OK
			if a == b {
				e = api.ErrAvro
			}
			checks(t, "two branches", plains(a, b), e)
			if c := (b + 1) % 8; a == c {
				e = api.ErrAvro
			}
			checks(t, "three branches", plains(a, (b+1)%8, b), e)
		}
	}
	null := of(api.AvroNull)
	for what, s := range map[string]api.Avro{
		"two lists":              nodes(of(api.AvroUnion, 1, 3), of(api.AvroList, 2), null, of(api.AvroList, 4), of(api.AvroInt)),
		"two maps":               nodes(of(api.AvroUnion, 1, 3), of(api.AvroMap, 2), null, of(api.AvroMap, 4), of(api.AvroInt)),
		"a union in a union":     nodes(of(api.AvroUnion, 1), of(api.AvroUnion, 2), null),
		"a union beside others":  nodes(of(api.AvroUnion, 1, 2), null, of(api.AvroUnion, 3), of(api.AvroInt)),
		"one named one twice":    nodes(of(api.AvroUnion, 1, 1), fix("F")),
		"one record twice":       nodes(rec("R", 1), of(api.AvroUnion, 0, 2, 0), null),
		"named ones of one Name": nodes(of(api.AvroUnion, 1, 2), fix("F"), fix("F")),
	} {
		checks(t, what, s, api.ErrAvro)
	}
	checks(t, "a list and a map", nodes(of(api.AvroUnion, 1, 3), of(api.AvroMap, 2), null, of(api.AvroList, 4), null), api.OK)
	checks(t, "a union in a list in a union", nodes(of(api.AvroUnion, 1), of(api.AvroList, 2), of(api.AvroUnion, 3), null), api.OK)
	checks(t, "named ones", nodes(of(api.AvroUnion, 1, 2, 3, 4), fix("F"), fix("a.F"), rec("R"), rec("S", 1)), api.OK)
}

// TestCheckNames: P9.1: names as they may be, each of one node, or one field, one symbol, alone.
func TestCheckNames(t *testing.T) {
	named := func(name string) []api.Avro {
		e := api.AvroNode{Kind: api.AvroEnum, Name: name, Symbols: []string{"A"}}
		return []api.Avro{nodes(fix(name)), nodes(rec(name)), nodes(e), nodes(rec("x.X", 1), fix(name)), nodes(of(api.AvroList, 1), e), nodes(rec(name, 0))}
	}
	parted := func(name string) []api.Avro {
		e := api.AvroNode{Kind: api.AvroEnum, Name: "E", Symbols: []string{name}}
		r, x := rec("R", 0), rec("R", 0, 0, 0)
		r.Fields[0].Name, x.Fields[1].Name = name, name
		l := []api.Avro{nodes(e), nodes(r)}
		if name != "a" && name != "c" {
			l = append(l, nodes(x))
		}
		return l
	}
	for _, name := range rightNames() {
		e := api.OK
		if strings.Contains(name, ".") {
			e = api.ErrAvro
		}
		for _, s := range named(name) {
			checks(t, "the name "+name, s, api.OK)
		}
		for _, s := range parted(name) {
			checks(t, "the part "+name, s, e)
		}
	}
	for _, name := range append(wrongNames(), "\xff", "a\xc3", "\xed\xa0\x80") {
		e := api.ErrAvro
		if slices.Contains(plain, name) {
			e = api.OK
		}
		for _, s := range named(name) {
			checks(t, "the name "+name, s, api.ErrAvro)
		}
		for _, s := range parted(name) {
			checks(t, "the part "+name, s, e)
		}
	}
	for what, s := range map[string]api.Avro{
		"two of one Name":               nodes(rec("R", 1, 2), fix("F"), fix("F")),
		"two of one Name, of a space":   nodes(rec("R", 1, 2), fix("a.F"), fix("a.F")),
		"two of one Name, of records":   nodes(rec("R", 1), rec("R", 0)),
		"two of one Name, of two kinds": nodes(rec("R", 1), fix("R")),
		"two of one Name, far away":     nodes(rec("R", 1, 3), rec("S", 2), fix("F"), of(api.AvroList, 4), rec("F")),
		"two fields of one name":        edited(nodes(rec("R", 0, 0)), func(s *api.Avro) { s.Nodes[0].Fields[1].Name = "a" }),
		"two fields of one name, far":   edited(nodes(rec("R", 0, 0, 0)), func(s *api.Avro) { s.Nodes[0].Fields[2].Name = "a" }),
		"one symbol twice":              nodes(api.AvroNode{Kind: api.AvroEnum, Name: "E", Symbols: []string{"A", "A"}}),
		"one symbol twice, far":         nodes(api.AvroNode{Kind: api.AvroEnum, Name: "E", Symbols: []string{"A", "B", "A"}, Has: true, Default: "B"}),
	} {
		checks(t, what, s, api.ErrAvro)
	}
	checks(t, "fields of two records", nodes(rec("R", 1, 0), rec("S", 0, 1)), api.OK)
	checks(t, "one last part", nodes(rec("R", 1, 2), fix("a.R"), fix("a.a.R")), api.OK)
}

// TestCheckMetAgain: P9.1: a named one without a space is not met again where the space is not empty.
func TestCheckMetAgain(t *testing.T) {
	list := of(api.AvroList, 2)
	for what, s := range map[string]api.Avro{
		"met first in a space":              nodes(rec("a.X", 1), fix("Y")),
		"met again where it is empty":       nodes(of(api.AvroUnion, 1, 2), rec("a.X", 2), fix("Y")),
		"met again in a record without one": nodes(rec("R", 1, 2, 2), rec("a.X", 2), fix("Y")),
		"met again in itself":               nodes(rec("Y", 0)),
		"met again in itself, in a space":   nodes(rec("a.X", 1), rec("Y", 1, 0)),
		"met again in itself, in a list":    nodes(rec("a.X", 1), rec("Y", 2), of(api.AvroList, 1)),
		"one with a space, in its own":      nodes(rec("a.X", 1, 1), fix("a.Y")),
		"one with a space, in another one":  nodes(rec("a.X", 1, 1), fix("b.Y")),
		"one with a space, where none is":   nodes(rec("X", 1, 1), fix("b.Y")),
		"one with a space, within a record": nodes(rec("a.X", 1), rec("b.Y", 0, 1)),
	} {
		checks(t, what, s, api.OK)
	}
	for what, s := range map[string]api.Avro{
		"in a space, both times":      nodes(rec("a.X", 1, 1), fix("Y")),
		"first where it is empty":     nodes(of(api.AvroUnion, 1, 2), fix("Y"), rec("a.X", 1)),
		"in a record within it":       nodes(rec("Y", 1), rec("a.X", 0)),
		"in a list":                   nodes(rec("a.X", 1, 3), list, fix("Y"), of(api.AvroMap, 2)),
		"in a union":                  nodes(rec("a.X", 1, 3), list, fix("Y"), of(api.AvroUnion, 2)),
		"in another space":            nodes(rec("a.X", 1, 2), fix("Y"), rec("b.Z", 1)),
		"in a longer space":           nodes(rec("a.b.X", 1, 1), rec("Y", 1)),
		"a record, far away":          nodes(rec("R", 1, 4), rec("a.X", 2), rec("Y", 3), of(api.AvroNull), rec("a.Z", 5), of(api.AvroList, 2)),
		"an enum, within two records": nodes(rec("a.X", 1), rec("b.Z", 2, 2), api.AvroNode{Kind: api.AvroEnum, Name: "Y", Symbols: []string{"A"}}),
	} {
		checks(t, "met again, "+what, s, api.ErrAvro)
	}
}

// TestCheckDefaults: P9.1: a field has a default that fits, or none at all.
func TestCheckDefaults(t *testing.T) {
	s := nodes(rec("R", 1, 2), of(api.AvroNull), of(api.AvroNull))
	for i, v := range append(pool(), wrongValues()...) {
		e := api.ErrAvro
		if v.Kind == api.JSONNull && jsontext.Check(v) == api.OK {
			e = api.OK
		}
		checks(t, "no default, but the value "+strconv.Itoa(i), edited(s, func(s *api.Avro) { s.Nodes[0].Fields[1].Default = v }), e)
	}
	for i, v := range wrongValues() {
		for _, text := range fitting() {
			s := takes(t, record("Outer", field("e", `"int"`), field("f", text)))
			checks(t, "a default that is the value "+strconv.Itoa(i), edited(s, func(s *api.Avro) { s.Nodes[0].Fields[1].Has, s.Nodes[0].Fields[1].Default = true, v }), api.ErrAvro)
			checks(t, "no default, but the value "+strconv.Itoa(i), edited(s, func(s *api.Avro) { s.Nodes[0].Fields[1].Default = v }), api.ErrAvro)
		}
	}
	empty := api.JSON{List: []api.JSON{}, Names: []string{}}
	checks(t, "empty lists", edited(s, func(s *api.Avro) { s.Nodes[0].Fields[0].Default = empty }), api.OK)
	checks(t, "a default of empty lists", edited(s, func(s *api.Avro) { s.Nodes[0].Fields[0].Has, s.Nodes[0].Fields[0].Default = true, empty }), api.OK)
}

// TestCheckDeep: P9.1: schemas that Make never answers, as they are too deep, or their texts too long; not more nodes than may be.
func TestCheckDeep(t *testing.T) {
	for _, kind := range []api.AvroKind{api.AvroList, api.AvroMap} {
		for _, many := range []int{1, 64, 65, 66, 100, 254, 255, 256, 257, 1000} {
			var l []api.AvroNode
			for i := range many {
				l = append(l, of(kind, i+1))
			}
			e := api.OK
			if many > 255 {
				e = api.ErrAvro
			}
			checks(t, strconv.Itoa(many)+" in one another", nodes(append(l, of(api.AvroNull))...), e)
		}
	}
	var l []api.AvroNode
	for i := range 256 {
		n := rec("R" + strconv.Itoa(i))
		for j := range 256 {
			n.Fields = append(n.Fields, api.AvroField{Name: long(124) + strconv.Itoa(j), Type: min(i+1, 255)})
		}
		l = append(l, n)
	}
	checks(t, "a text of 9 MB", nodes(l...), api.OK)
	checks(t, "a text of 9 MB, and one more", nodes(append(l, fix("F"))...), api.ErrAvro)
	checks(t, "a text of 9 MB, one field more", edited(nodes(l...), func(s *api.Avro) {
		s.Nodes[7].Fields = append(s.Nodes[7].Fields, api.AvroField{Name: "f", Type: 8})
	}), api.ErrAvro)
	for many, e := range map[int]api.Errno{1: api.OK, 61: api.OK, 62: api.OK, 64: api.OK, 65: api.ErrAvro, 100: api.ErrAvro} {
		l, v := []api.AvroNode{rec("R", 1)}, api.JSON{Kind: api.JSONList}
		for i := range many {
			l = append(l, of(api.AvroList, i+2))
			if i > 0 {
				v = api.JSON{Kind: api.JSONList, List: []api.JSON{v}}
			}
		}
		l[0].Fields[0].Has, l[0].Fields[0].Default = true, v
		checks(t, "a default of depth "+strconv.Itoa(many), nodes(append(l, of(api.AvroNull))...), e)
	}
	for many, e := range map[int]api.Errno{1<<20 - 2: api.OK, 1<<20 - 1: api.ErrAvro} {
		s := nodes(rec("R", 1), of(api.AvroText))
		s.Nodes[0].Fields[0].Has, s.Nodes[0].Fields[0].Default = true, text(long(many))
		checks(t, "a default of "+strconv.Itoa(many)+" letters", s, e)
	}
}
