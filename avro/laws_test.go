package avro_test

import (
	"slices"
	"strconv"
	"strings"
	"testing"

	"lexicon/api"
	"lexicon/avro"
	"lexicon/jsontext"
)

// maker makes texts of schemas, of no plain order, some of which may not be.
type maker struct {
	next  func(n int) int
	types map[string]*type_
	names []string // that are defined, in order
	wrong int      // once in so many places it makes what may not be
}

// pick is one of some texts.
func (g *maker) pick(l ...string) string { return l[g.next(len(l))] }

// once tells whether it is time for what comes once in n times.
func (g *maker) once(n int) bool { return g.next(n) == 0 }

// schema is a schema's text, and what it is, if it may be.
func (g *maker) schema(depth int, space string) (string, *type_) {
	if g.once(g.wrong * 4) {
		return faults()[g.next(len(faults()))].text, nil
	}
	if len(g.names) > 0 && g.once(4) {
		name := g.names[g.next(len(g.names))]
		n := g.types[name]
		if at := strings.LastIndex(name, "."); name[:max(at, 0)] == space && g.once(2) {
			name = name[at+1:]
		} else if at < 0 && space != "" && !g.once(g.wrong) {
			return `"int"`, &type_{kind: 2}
		}
		return quoted(name), n
	}
	kind := g.next(14)
	if depth == 0 {
		kind = g.next(8)
	}
	return g.kind(api.AvroKind(kind), depth, space)
}

// kind is a new schema of a kind.
func (g *maker) kind(kind api.AvroKind, depth int, space string) (text string, n *type_) {
	n = &type_{kind: kind}
	switch kind {
	case 8, 9, 10:
		text = g.named(n, depth, space)
	case 11, 12:
		of, kid := g.schema(depth-1, space)
		n.kids = []*type_{kid}
		if text = array(of); kind == 12 {
			text = dict(of)
		}
	case 13:
		text = g.union(n, depth, space)
	default:
		text = quoted(plain[kind])
	}
	if g.once(5) {
		text = in(text)
	}
	if slices.Contains(n.kids, nil) {
		return text, nil
	}
	return text, n
}

// union is a union, of kinds that it has once.
func (g *maker) union(n *type_, depth int, space string) string {
	var l []string
	left := []api.AvroKind{0, 1, 2, 3, 4, 5, 6, 7, 8, 8, 9, 9, 10, 10, 11, 12}
	if g.once(g.wrong) {
		left = append(left, 13, 2, 8, 11)
	}
	for range g.next(5) + 1 {
		i := g.next(len(left))
		of, kid := g.kind(left[i], depth-1, space)
		n.kids, l = append(n.kids, kid), append(l, of)
		left = slices.Delete(left, i, i+1)
	}
	return union(l...)
}

// named is a named one.
func (g *maker) named(n *type_, depth int, space string) string {
	n.name = "N" + strconv.Itoa(len(g.names))
	if g.once(g.wrong) {
		n.name = g.pick("", "1", "int", ".", "a.", "x-y", "N0", long(129), "N1", "a.N0")
	}
	own := ""
	switch g.next(4) {
	case 0:
		n.name = g.pick("a.", "a.b.", "c.", "b.") + n.name
	case 1:
		space = g.pick("", "a", "a.b", "c")
		own = `"namespace":` + quoted(space)
	}
	name := n.name
	if !strings.Contains(name, ".") && space != "" {
		n.name = space + "." + name
	}
	g.names, g.types[n.name] = append(g.names, n.name), n
	var text string
	switch n.kind {
	case 8:
		text = g.record(n, name, depth)
	case 9:
		n.symbols = []string{"A", "B", "c", "_0"}[:g.next(4)+1]
		if text = enum(name, n.symbols...); g.once(2) {
			text = with(text, `"default":`+quoted(n.symbols[g.next(len(n.symbols))]))
		}
	case 10:
		n.size = g.next(4)
		text = fixed(name, n.size)
	}
	if own != "" {
		text = with(text, own)
	}
	return text
}

// record is a record.
func (g *maker) record(n *type_, name string, depth int) string {
	var l []string
	space := n.name[:max(strings.LastIndex(n.name, "."), 0)]
	for i := range g.next(4) {
		name := string(rune('a' + i))
		if g.once(g.wrong * 2) {
			name = g.pick("", "a", "1", "a.b")
		}
		of, kid := g.schema(max(depth-1, 0), space)
		n.fields = append(n.fields, member{name: name, of: kid})
		switch {
		case g.once(g.wrong):
			l = append(l, fieldOr(name, of, string(jsontext.Print(pool()[g.next(len(pool()))]))))
		case kid != nil && g.once(2):
			l = append(l, fieldOr(name, of, g.fit(kid, 6)))
		default:
			l = append(l, field(name, of))
		}
	}
	return record(name, l...)
}

// fit is a value that fits, if that may be told so far, and is not too deep.
func (g *maker) fit(n *type_, depth int) string {
	if n == nil || depth == 0 {
		return "null"
	}
	switch n.kind {
	case 1:
		return g.pick("true", "false")
	case 2:
		return g.pick("0", "-1", "2147483647", "1e3")
	case 3:
		return g.pick("0", "-9223372036854775808", "1.0")
	case 4, 5:
		return g.pick("0", "-0.5", "3e38", "1e-900")
	case 6, 7:
		return g.pick(`""`, `"a"`, "\"\u00ff\"")
	case 8:
		var l []string
		for _, f := range n.fields {
			l = append(l, quoted(f.name)+":"+g.fit(f.of, depth-1))
		}
		slices.SortFunc(l, func(string, string) int { return g.next(3) - 1 })
		return "{" + strings.Join(l, ",") + "}"
	case 9:
		return quoted(n.symbols[g.next(len(n.symbols))])
	case 10:
		return `"` + strings.Repeat("\u00e9", n.size) + `"`
	case 11:
		return "[" + strings.Join(slices.Repeat([]string{g.fit(n.kids[0], depth-1)}, g.next(3)), ",") + "]"
	case 12:
		return g.pick("{}", `{"x":`+g.fit(n.kids[0], depth-1)+`}`)
	case 13:
		return g.fit(n.kids[0], depth-1)
	}
	return "null"
}

// whole is a text, and imports ahead of it.
func (g *maker) whole() (string, []api.Import) {
	var l []api.Import
	for range g.next(4) {
		from := len(g.names)
		text, _ := g.kind(api.AvroKind(8+g.next(3)), 2, "")
		name := g.names[from+g.next(len(g.names)-from)]
		if g.once(g.wrong) {
			name = g.pick("", "x", g.names[0])
		}
		l = append(l, api.Import{Name: name, Text: text})
	}
	text, _ := g.schema(4, "")
	return text, l
}

// TestMakeModel: P9.1: Make answers what the chapter's words ask, of texts of no plain order, most of which may be.
func TestMakeModel(t *testing.T) {
	met := map[api.Errno]int{}
	for seed := range uint64(20_000) {
		g := &maker{next: numbers(seed), types: map[string]*type_{}, wrong: 2 + int(seed%4)*20}
		text, imports := g.whole()
		want, e := made(text, imports...)
		s, got := avro.Make([]byte(text), imports...)
		if got != e || !identical(s, want) {
			t.Errorf("P9.1: Make of %s, %v: %d, %s; not %d, %s", text, imports, got, show(s), e, show(want))
		}
		if met[e]++; e != api.OK {
			continue
		}
		if e := avro.Check(s); e != api.OK {
			t.Errorf("P9.3: Check of Make of %s: %d", text, e)
		}
		var names []string
		for i, n := range s.Nodes {
			if n.Name != "" {
				names = append(names, n.Name)
				if at, ok := avro.Find(s, n.Name); at != i || !ok {
					t.Errorf("P9.2: Find of %s: %d, %t", n.Name, at, ok)
				}
			}
		}
		if got := avro.Names(s); !slices.Equal(got, names) {
			t.Errorf("P9.2: Names: %v, not %v", got, names)
		}
	}
	if met[api.OK] < 5000 || met[api.ErrAvro] < 300 || met[api.ErrName] < 500 || met[api.ErrDefault] < 500 {
		t.Errorf("the tests' texts: %v", met)
	}
}

// TestCheckModel: P9.1: Check takes just what Make could answer, of schemas with edits of no plain order.
func TestCheckModel(t *testing.T) {
	met := map[api.Errno]int{}
	for seed := range uint64(20_000) {
		g := &maker{next: numbers(seed), types: map[string]*type_{}, wrong: 1000}
		text, imports := g.whole()
		s, e := avro.Make([]byte(text), imports...)
		if e != api.OK {
			continue
		}
		for range 4 {
			b := edited(s, g.edit)
			want := checked(b)
			if got := avro.Check(b); got != want {
				t.Errorf("P9.1: Check of %s: %d, not %d", show(b), got, want)
			}
			if got := avro.Same(s, b); got != sameAs(s, b) {
				t.Errorf("P9.2: Same of %s, %s: %t", show(s), show(b), got)
			}
			if met[want]++; want == api.OK {
				s = b
			}
		}
	}
	if met[api.OK] < 5000 || met[api.ErrAvro] < 5000 {
		t.Errorf("the tests' schemas: %v", met)
	}
}

// sameAs is what the chapter's words ask of Same.
func sameAs(a, b api.Avro) bool {
	level := func(s *api.Avro) {
		for _, n := range s.Nodes {
			for i := range n.Fields {
				n.Fields[i].Default = api.JSON{}
			}
		}
	}
	if !identical(edited(a, level), edited(b, level)) {
		return false
	}
	for i, n := range a.Nodes {
		for j, f := range n.Fields {
			other := b.Nodes[i].Fields[j].Default
			if f.Has && (jsontext.Check(f.Default) != api.OK || jsontext.Check(other) != api.OK || !equal(f.Default, other)) {
				return false
			}
		}
	}
	return true
}

// edit makes one or two edits to a schema.
func (g *maker) edit(s *api.Avro) {
	for range g.next(2) + 1 {
		at := g.next(len(s.Nodes))
		n := &s.Nodes[at]
		to := g.next(len(s.Nodes)+2) - 1
		switch g.next(16) {
		case 0:
			s.Root = g.next(3) - 1
		case 1:
			n.Kind = api.AvroKind(g.next(16) - 1)
		case 2:
			n.Name = g.pick("", "int", "a.int", "X", "a.X", "a.b.X", "1", s.Nodes[max(to, 0)%len(s.Nodes)].Name)
		case 3:
			n.Size = []int{0, 1, -1, 1 << 16, 1<<16 + 1}[g.next(5)]
		case 4:
			n.Has = !n.Has
		case 5:
			n.Default = g.pick("", "A", "B", "x")
		case 6:
			n.Symbols = append(n.Symbols, g.pick("A", "Z", "y", "", "1"))
		case 7:
			n.Kids = append(n.Kids, to)
		case 8:
			if len(n.Kids) > 0 {
				n.Kids[g.next(len(n.Kids))] = to
			}
		case 9:
			n.Fields = append(n.Fields, api.AvroField{Name: g.pick("a", "x", "y", "z", ""), Type: to})
		case 10, 11:
			if len(n.Fields) > 0 {
				g.editField(&n.Fields[g.next(len(n.Fields))], to)
			}
		case 12:
			s.Nodes[at], s.Nodes[(at+1)%len(s.Nodes)] = s.Nodes[(at+1)%len(s.Nodes)], s.Nodes[at]
		case 13:
			s.Nodes = append(s.Nodes, api.AvroNode{Kind: api.AvroKind(g.next(8))})
		case 14:
			s.Nodes = s.Nodes[:len(s.Nodes)-1]
			if len(s.Nodes) == 0 {
				return
			}
		case 15:
			n.Name = n.Name[strings.LastIndex(n.Name, ".")+1:]
		}
	}
}

// editField makes an edit to a field.
func (g *maker) editField(f *api.AvroField, to int) {
	switch g.next(4) {
	case 0:
		f.Name = g.pick("a", "b", "x", "y", "", "1", "a.b")
	case 1:
		f.Type = to
	case 2:
		f.Has = !f.Has
	case 3:
		f.Has, f.Default = g.once(2), append(pool(), wrongValues()...)[g.next(len(pool())+len(wrongValues()))]
	}
}

// TestLoose: P9.3: Make does not hang on blanks, on the order of members, on members that are passed over.
func TestLoose(t *testing.T) {
	met := 0
	for seed := range uint64(5_000) {
		g := &maker{next: numbers(seed), types: map[string]*type_{}, wrong: 4 + int(seed%4)*20}
		text, imports := g.whole()
		s, e := avro.Make([]byte(text), imports...)
		if slices.ContainsFunc(append(imports, api.Import{Text: text}), isNoJSON) {
			continue
		}
		for range 3 {
			loose := slices.Clone(imports)
			for i := range loose {
				loose[i].Text = g.blank() + g.loose(value(loose[i].Text)) + g.blank()
			}
			other := g.blank() + g.loose(value(text)) + g.blank()
			b, got := avro.Make([]byte(other), loose...)
			if got != e || !identical(s, b) {
				t.Errorf("P9.3: Make of %s, %v: %d, %s; not %d, %s", other, loose, got, show(b), e, show(s))
			}
		}
		if e == api.OK {
			met++
		}
	}
	if met < 1000 {
		t.Errorf("the tests' texts: %d", met)
	}
	a := takes(t, record("R", fieldOr("f", record("S", field("a", `"int"`), field("b", dict(`"int"`))), `{"a":1,"b":{"x":1,"y":2}}`)))
	b := takes(t, record("R", fieldOr("f", record("S", field("a", `"int"`), field("b", dict(`"int"`))), ` { "b" : {"y":2.0,"x":1e0}, "a" : 10e-1 } `)))
	same(t, "a default's members in another order", a, b, true)
}

// isNoJSON tells whether an import's text is none of JSON.
func isNoJSON(i api.Import) bool {
	_, e := jsontext.Parse([]byte(i.Text))
	return e != api.OK
}

// blank is some blanks.
func (g *maker) blank() string {
	return g.pick("", "", "", " ", "\t", "\r\n", "  \n ")
}

// loose is a schema's text once more, with blanks, members in another order, and other ones that are passed over.
func (g *maker) loose(v api.JSON) string {
	switch v.Kind {
	case api.JSONList:
		return g.list(v, g.loose)
	case api.JSONObject:
		of, _ := get(v, "type")
		known := map[string][]string{"record": {"type", "name", "namespace", "fields"}, "enum": {"type", "name", "namespace", "symbols", "default"}, "fixed": {"type", "name", "namespace", "size"}, "array": {"type", "items"}, "map": {"type", "values"}}[of.Text]
		if known == nil {
			known = []string{"type"}
		}
		return g.object(v, known, func(name string, m api.JSON) string {
			switch {
			case name == "type" && len(known) > 1, name == "name", name == "namespace", name == "symbols", name == "default", name == "size":
				return string(jsontext.Print(m))
			case name == "fields" && m.Kind == api.JSONList:
				return g.list(m, func(f api.JSON) string {
					return g.object(f, []string{"name", "type", "default"}, func(name string, m api.JSON) string {
						if name == "type" {
							return g.loose(m)
						}
						return string(jsontext.Print(m))
					})
				})
			}
			return g.loose(m)
		})
	}
	return string(jsontext.Print(v))
}

// list is a list's text, with blanks.
func (g *maker) list(v api.JSON, each func(v api.JSON) string) string {
	var l []string
	for _, w := range v.List {
		l = append(l, g.blank()+each(w)+g.blank())
	}
	return "[" + g.blank() + strings.Join(l, ",") + "]"
}

// object is an object's text: of its members those that count, and others that do not.
func (g *maker) object(v api.JSON, known []string, each func(name string, v api.JSON) string) string {
	if v.Kind != api.JSONObject {
		return string(jsontext.Print(v))
	}
	var l []string
	for i, name := range v.Names {
		if slices.Contains(known, name) {
			l = append(l, g.blank()+quoted(name)+g.blank()+":"+g.blank()+each(name, v.List[i])+g.blank())
		}
	}
	for _, name := range []string{"doc", "aliases", "order", "logicalType", "x", "", "Name", "default", "items", "values", "symbols", "fields", "size", "namespace", "name"} {
		if g.once(8) && !slices.Contains(known, name) {
			l = append(l, quoted(name)+":"+g.pick("null", "5", `"int"`, `"x.y"`, "[]", `["A"]`, "{}", `{"type":"x"}`, `"N0"`))
		}
	}
	for i := range l {
		j := i + g.next(len(l)-i)
		l[i], l[j] = l[j], l[i]
	}
	return "{" + g.blank() + strings.Join(l, ",") + "}"
}
