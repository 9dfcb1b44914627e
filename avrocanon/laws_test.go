package avrocanon_test

import (
	"slices"
	"strconv"
	"strings"
	"testing"

	"lexicon/api"
	"lexicon/avro"
	"lexicon/avrocanon"
	"lexicon/jsontext"
)

// numbers tells pseudo-random numbers from 0 to n - 1.
func numbers(seed uint64) func(n int) int {
	return func(n int) int {
		seed = seed*6364136223846793005 + 1442695040888963407
		return int(seed >> 33 % uint64(n))
	}
}

// maker makes schemas of no plain order, node by node.
type maker struct {
	next func(n int) int
	s    api.Avro
}

// once tells whether it is time for what comes once in n times.
func (g *maker) once(n int) bool { return g.next(n) == 0 }

// pick is one of some texts.
func (g *maker) pick(l ...string) string { return l[g.next(len(l))] }

// whole is a schema that may be.
func (g *maker) whole(depth int) api.Avro {
	g.s = api.Avro{}
	if g.once(8) {
		g.kind(api.AvroKind(g.next(14)), depth, "")
	} else {
		g.kind([]api.AvroKind{api.AvroRecord, api.AvroRecord, api.AvroUnion}[g.next(3)], depth, "")
	}
	for at, n := range g.s.Nodes {
		for i, f := range n.Fields {
			if v, ok := g.fit(f.Type, 5); ok && g.once(2) {
				g.s.Nodes[at].Fields[i].Has, g.s.Nodes[at].Fields[i].Default = true, v
			}
		}
	}
	return g.s
}

// schema is the number of a node that may stand in a space.
func (g *maker) schema(depth int, space string) int {
	if at := g.again(space); at >= 0 && g.once(4) {
		return at
	}
	if depth <= 0 || len(g.s.Nodes) > 40 || g.once(3) {
		return g.kind(api.AvroKind(g.next(8)), depth, space)
	}
	return g.kind(api.AvroKind(8+g.next(6)), depth, space)
}

// again is the number of a named node that may be met again in a space; below 0, if it finds none.
func (g *maker) again(space string) int {
	var l []int
	for at, n := range g.s.Nodes {
		if n.Name != "" && (space == "" || strings.Contains(n.Name, ".")) {
			l = append(l, at)
		}
	}
	if len(l) == 0 {
		return -1
	}
	return l[g.next(len(l))]
}

// kind is the number of a new node of a kind.
func (g *maker) kind(kind api.AvroKind, depth int, space string) int {
	at := len(g.s.Nodes)
	n := api.AvroNode{Kind: kind}
	if kind == api.AvroRecord || kind == api.AvroEnum || kind == api.AvroFixed {
		n.Name = g.pick("", "", "a.", "a.b.", "c.") + "N" + strconv.Itoa(at)
	}
	g.s.Nodes = append(g.s.Nodes, n)
	switch kind {
	case api.AvroRecord:
		own := n.Name[:max(strings.LastIndex(n.Name, "."), 0)]
		for i := range g.next(6) {
			of := g.schema(depth-1, own)
			n.Fields = append(n.Fields, api.AvroField{Name: string(rune('f' - i)), Type: of})
		}
	case api.AvroEnum:
		n.Symbols = []string{"B", "A", "_0", "c"}[:g.next(4)+1]
		if n.Has = g.once(2); n.Has {
			n.Default = n.Symbols[g.next(len(n.Symbols))]
		}
	case api.AvroFixed:
		n.Size = g.next(4)
	case api.AvroList, api.AvroMap:
		n.Kids = []int{g.schema(depth-1, space)}
	case api.AvroUnion:
		n.Kids = g.branches(depth, space)
	}
	g.s.Nodes[at] = n
	return at
}

// branches are those of a union.
func (g *maker) branches(depth int, space string) []int {
	var l []int
	left := []api.AvroKind{0, 1, 2, 3, 4, 5, 6, 7, 8, 8, 9, 9, 10, 10, 11, 12}
	for range g.next(6) + 1 {
		if at := g.again(space); at >= 0 && !slices.Contains(l, at) && g.once(3) {
			l = append(l, at)
			continue
		}
		i := g.next(len(left))
		l = append(l, g.kind(left[i], depth-1, space))
		left = slices.Delete(left, i, i+1)
	}
	return l
}

// fit is a value that fits a node; not, if it finds none that is no deeper.
func (g *maker) fit(at, depth int) (api.JSON, bool) {
	n := g.s.Nodes[at]
	if depth == 0 {
		return api.JSON{}, n.Kind == api.AvroNull
	}
	switch n.Kind {
	case api.AvroNull:
		return api.JSON{}, true
	case api.AvroBool:
		return api.JSON{Kind: api.JSONBool, Bool: g.once(2)}, true
	case api.AvroInt, api.AvroLong:
		return value(g.pick("0", "-1", "2147483647", "1e3", "1.0")), true
	case api.AvroFloat, api.AvroDouble:
		return value(g.pick("0", "-0.50", "3e38", "1e-900", "12345678901234567890123")), true
	case api.AvroBytes, api.AvroText:
		return api.JSON{Kind: api.JSONText, Text: g.pick("", "a", "\u00ff\x00", "\"\\/", "\n\t\x1f\x7f")}, true
	case api.AvroEnum:
		return api.JSON{Kind: api.JSONText, Text: n.Symbols[g.next(len(n.Symbols))]}, true
	case api.AvroFixed:
		return api.JSON{Kind: api.JSONText, Text: strings.Repeat(g.pick("\u00e9", "\"", "\x01"), n.Size)}, true
	case api.AvroUnion:
		return g.fit(n.Kids[0], depth)
	}
	return g.several(n, depth)
}

// several is a value of several ones that fits a node.
func (g *maker) several(n api.AvroNode, depth int) (api.JSON, bool) {
	v, right := api.JSON{Kind: api.JSONObject}, true
	put := func(name string, at int) {
		w, ok := g.fit(at, depth-1)
		right = right && ok
		v.Names, v.List = append(v.Names, name), append(v.List, w)
	}
	switch n.Kind {
	case api.AvroRecord:
		for _, f := range n.Fields {
			put(f.Name, f.Type)
		}
	case api.AvroList, api.AvroMap:
		for i := range g.next(4) {
			put(g.pick("b", "a", "", "\u00e9", "\n", "\"")+strconv.Itoa(i), n.Kids[0])
		}
	}
	if n.Kind == api.AvroList {
		v.Kind, v.Names = api.JSONList, nil
	}
	g.shuffle(&v)
	return v, right
}

// shuffle brings members, or values, in another order.
func (g *maker) shuffle(v *api.JSON) {
	for i := range v.List {
		j := i + g.next(len(v.List)-i)
		v.List[i], v.List[j] = v.List[j], v.List[i]
		if v.Kind == api.JSONObject {
			v.Names[i], v.Names[j] = v.Names[j], v.Names[i]
		}
	}
}

// edit makes one edit to a schema, after which it may be or not.
func (g *maker) edit(s *api.Avro) {
	n := &s.Nodes[g.next(len(s.Nodes))]
	to := g.next(len(s.Nodes)+2) - 1
	switch g.next(14) {
	case 0:
		s.Root = g.next(3) - 1
	case 1:
		n.Kind = api.AvroKind(g.next(16) - 1)
	case 2, 3:
		n.Name = g.pick("", "int", "a.int", "X", "a.X", "a.b.X", "1", s.Nodes[max(to, 0)%len(s.Nodes)].Name)
	case 4:
		n.Size = g.next(6) - 1
	case 5:
		n.Has, n.Default = g.once(2), g.pick("", "A", "B", "x")
	case 6:
		n.Symbols = append(n.Symbols, g.pick("A", "Z", "y", ""))
	case 7:
		n.Kids = append(n.Kids, to)
	case 8:
		if len(n.Kids) > 0 {
			n.Kids[g.next(len(n.Kids))] = to
		}
	case 9:
		n.Fields = append(n.Fields, api.AvroField{Name: g.pick("a", "x", "y", ""), Type: to})
	default:
		if len(n.Fields) > 0 {
			g.s = *s
			g.editField(&n.Fields[g.next(len(n.Fields))], to)
		}
	}
}

// editField makes an edit to a field of the maker's schema, which may be.
func (g *maker) editField(f *api.AvroField, to int) {
	switch g.next(10) {
	case 0:
		f.Name = g.pick("a", "b", "x", "y", "", "a.b")
	case 1:
		f.Type = to
	case 2:
		f.Has, f.Default = false, api.JSON{}
	case 3:
		if v := value(string(jsontext.Print(f.Default))); f.Has {
			g.shuffle(&v)
			f.Default = v
		}
	case 4:
		f.Has, f.Default = true, value(g.pick("null", "0", "1", `""`, `"A"`, "[]", "{}", "true"))
	default:
		if v, ok := g.fit(f.Type, 4); ok {
			f.Has, f.Default = true, v
		}
	}
}

// loose is a value's text with blanks, members in another order, numbers and letters written otherwise.
func (g *maker) loose(v api.JSON) string {
	blank := func() string { return g.pick("", "", "", " ", "\t", "\r\n") }
	var l []string
	switch v.Kind {
	case api.JSONNumber:
		text := string(jsontext.Print(v))
		if !strings.Contains(text, "e") {
			text += g.pick("", "e0", "E+0", "e-00")
		}
		return blank() + text + blank()
	case api.JSONText:
		return blank() + g.letters(v.Text) + blank()
	case api.JSONObject:
		v.Names, v.List = slices.Clone(v.Names), slices.Clone(v.List)
		g.shuffle(&v)
		for i, name := range v.Names {
			l = append(l, blank()+g.letters(name)+blank()+":"+g.loose(v.List[i]))
		}
		return blank() + "{" + blank() + strings.Join(l, ",") + "}" + blank()
	case api.JSONList:
		for _, w := range v.List {
			l = append(l, g.loose(w))
		}
		return blank() + "[" + blank() + strings.Join(l, ",") + "]" + blank()
	}
	return blank() + string(jsontext.Print(v)) + blank()
}

// letters is a text in quotes, whose letters may stand behind a \.
func (g *maker) letters(s string) string {
	b := []byte{'"'}
	for _, c := range s {
		if c > 0xffff || c >= ' ' && c != '"' && c != '\\' && !g.once(4) {
			b = append(b, string(c)...)
			continue
		}
		const digits = "0123456789abcdefABCDEF"
		b = append(b, '\\', 'u')
		for at := 12; at >= 0; at -= 4 {
			b = append(b, digits[c>>at&15])
		}
	}
	return string(append(b, '"'))
}

// bare is a schema without defaults.
func bare(s api.Avro) api.Avro {
	return edited(s, func(s *api.Avro) {
		for i := range s.Nodes {
			s.Nodes[i].Has, s.Nodes[i].Default = false, ""
			for j := range s.Nodes[i].Fields {
				s.Nodes[i].Fields[j].Has, s.Nodes[i].Fields[j].Default = false, api.JSON{}
			}
		}
	})
}

// keeps complains if what P10.2 promises of a schema that may be does not hold; it answers whether the normal form and the canonical form are read.
func keeps(t *testing.T, s api.Avro) (isRead, isCanonRead bool) {
	t.Helper()
	normal, canon, spaces := modelled(s)
	tells(t, s, normal, canon)
	want := readable(normal)
	back, e := avro.Make([]byte(normal))
	again, f := avrocanon.Normal(back)
	if e != want || e == api.OK && (f != api.OK || again != normal || !avro.Same(back, s) || !avrocanon.Alike(back, s)) {
		t.Errorf("P10.2: Make of Normal: %d, not %d: %d, %.500s; not %.500s", e, want, f, again, normal)
	}
	if canon == normal {
		return e == api.OK, e == api.OK
	}
	back, d := avro.Make([]byte(canon))
	again, f = avrocanon.Canon(back)
	want = readable(canon)
	if d == api.OK && spaces == 0 && (f != api.OK || again != canon || !avro.Same(back, bare(s)) || !avrocanon.Alike(back, s)) || spaces == 0 && d != want {
		t.Errorf("P10.2: Make of Canon: %d, not %d: %d, %.500s; not %.500s", d, want, f, again, canon)
	}
	return e == api.OK, d == api.OK
}

// readable is what layer 8 answers of a form.
func readable(form string) api.Errno {
	switch {
	case len(form) > api.MaxText:
		return api.ErrLong
	case nesting(form) > api.MaxDepth:
		return api.ErrDeep
	}
	return api.OK
}

// TestLaws: P10.1, P10.2: schemas of no plain order have the forms that the chapter's words ask, and are what Make of these tells.
func TestLaws(t *testing.T) {
	met, spaced, kinds := 0, 0, map[api.AvroKind]int{}
	for seed := range uint64(10_000) {
		g := &maker{next: numbers(seed)}
		s := g.whole(2 + int(seed%4))
		if e := avro.Check(s); e != api.OK {
			t.Fatalf("the tests' schema: %d, %s", e, show(s))
		}
		if ok, _ := keeps(t, s); !ok {
			t.Errorf("the tests' schema is not read: %s", show(s))
		}
		normal, _, spaces := modelled(s)
		text := g.loose(value(normal))
		if back := made(t, text); !avro.Same(back, s) {
			t.Errorf("the tests' text is another schema: %s", text)
		} else if got, e := avrocanon.Normal(back); got != normal || e != api.OK {
			t.Errorf("P10.2: Normal of %s: %d, %s; not %s", text, e, got, normal)
		}
		for _, n := range s.Nodes {
			kinds[n.Kind]++
		}
		met += len(s.Nodes)
		spaced += spaces
	}
	if met < 40_000 || spaced < 1000 || len(kinds) != 14 {
		t.Errorf("the tests' schemas: %d, %d, %v", met, spaced, kinds)
	}
}

// TestPairs: P10.1, P10.2: two have one normal form just if they are Same; they are Alike just if they are so without defaults.
func TestPairs(t *testing.T) {
	same, alike, neither := 0, 0, 0
	for seed := range uint64(1_000) {
		g := &maker{next: numbers(seed)}
		pool := []api.Avro{g.whole(3)}
		for range 40 {
			if b := edited(pool[g.next(len(pool))], g.edit); avro.Check(b) == api.OK && len(pool) < 8 {
				pool = append(pool, b)
			}
		}
		for _, a := range pool {
			for _, b := range pool {
				one, _ := avrocanon.Normal(a)
				other, _ := avrocanon.Normal(b)
				isSame, isAlike := avro.Same(a, b), avro.Same(bare(a), bare(b))
				if (one == other) != isSame {
					t.Errorf("P10.2: Normal: %s, %s; Same: %t", one, other, isSame)
				}
				if avrocanon.Alike(a, b) != isAlike {
					t.Errorf("P10.1: Alike of %s, %s: %t", one, other, !isAlike)
				}
				switch {
				case isSame:
					same++
				case isAlike:
					alike++
				default:
					neither++
				}
			}
		}
	}
	if same < 1000 || alike < 1000 || neither < 1000 {
		t.Errorf("the tests' pairs: %d, %d, %d", same, alike, neither)
	}
}

// chain is a schema of nodes that lead to one another: so many lists, then so many of a kind, then the last one.
func chain(lists int, kind api.AvroKind, many int, last api.AvroNode) api.Avro {
	var s api.Avro
	for at := range lists + many {
		n := of(kind, at+1)
		switch {
		case at < lists:
			n.Kind = api.AvroList
		case kind == api.AvroRecord:
			n = rec([]string{"", "a.", "b."}[at%3]+"R"+strconv.Itoa(at), at+1)
		case kind == api.AvroUnion && at%2 == 1: // no union stands in another one
			n.Kind = api.AvroList + api.AvroKind(at/2%2)
		}
		s.Nodes = append(s.Nodes, n)
	}
	return edited(s, func(s *api.Avro) { s.Nodes = append(s.Nodes, last) })
}

// TestDeep: P10.2: a normal form of MaxDepth is the schema again; one that is deeper is told, and not read.
func TestDeep(t *testing.T) {
	for _, kind := range []api.AvroKind{api.AvroRecord, api.AvroList, api.AvroMap, api.AvroUnion} {
		deepest := 0
		for lists := range 3 {
			for _, many := range []int{0, 1, 2, 18, 19, 20, 21, 22, 59, 60, 61, 62, 63, 64, 65, 100, 250, 253} {
				for _, last := range []api.AvroNode{of(api.AvroInt), fix("F"), fix("a.F"), rec("R"), rec("R", lists+many)} {
					s := chain(lists, kind, many, last)
					normal, _, _ := modelled(s)
					ok, _ := keeps(t, s)
					if n := nesting(normal); ok != (n <= api.MaxDepth) {
						t.Errorf("P10.2: a normal form of depth %d, kind %d: %t", n, kind, ok)
					} else if ok {
						deepest = max(deepest, n)
					}
				}
			}
		}
		if deepest != api.MaxDepth {
			t.Errorf("the tests' schemas: kind %d, no deeper than %d", kind, deepest)
		}
	}
}

// TestDeepDefaults: P10.2: likewise, with defaults that nest deep.
func TestDeepDefaults(t *testing.T) {
	read := 0
	for many := range 65 {
		// A record of a field of lists of lists ..; its text nests deeper than that of its default.
		v := api.JSON{Kind: api.JSONList}
		for range many {
			v = api.JSON{Kind: api.JSONList, List: []api.JSON{v}}
		}
		s := chain(0, api.AvroList, many+2, of(api.AvroNull))
		s.Nodes[0] = rec("R", 1)
		s.Nodes[0].Fields[0].Has, s.Nodes[0].Fields[0].Default = many < api.MaxDepth, api.JSON{}
		if many < api.MaxDepth {
			s.Nodes[0].Fields[0].Default = v
		}
		if ok, _ := keeps(t, s); ok != (3+many+1 <= api.MaxDepth) {
			t.Errorf("P10.2: a default of %d lists: %t", many+1, ok)
		}
		if many < 1 || many > api.MaxDepth {
			continue
		}
		// A record of a field of records of lists of themselves; {"a":[{"a":[ .. ]}]}, or that in a list.
		s = nodes(rec("R", 1), rec("T", 2), of(api.AvroList, 1))
		if many%2 == 1 {
			s = nodes(rec("R", 1), of(api.AvroList, 2), rec("T", 3), of(api.AvroList, 2))
		}
		v = api.JSON{Kind: api.JSONList}
		for i := range many - 1 {
			v = api.JSON{Kind: api.JSONList, List: []api.JSON{v}}
			if i%2 == 0 {
				v.Kind, v.Names = api.JSONObject, []string{"a"}
			}
		}
		s.Nodes[0].Fields[0].Has, s.Nodes[0].Fields[0].Default = true, v
		ok, isCanon := keeps(t, s)
		if ok != (3+many <= api.MaxDepth) || !isCanon {
			t.Errorf("P10.2: a default of depth %d: %t, %t", many, ok, isCanon)
		}
		if ok {
			read++
		}
	}
	if read != 61 {
		t.Errorf("the tests' schemas: %d", read)
	}
}

// TestLong: P10.2: a normal form of MaxText bytes is the schema again; one that is longer is told, and not read.
func TestLong(t *testing.T) {
	room := api.MaxText - len(record("R", fieldOr("a", `"string"`, `""`)))
	for many, want := range map[int]bool{room - 1: true, room: true, room + 1: false, api.MaxText - 2: false} {
		s := nodes(rec("R", 1), of(api.AvroText))
		s.Nodes[0].Fields[0].Has, s.Nodes[0].Fields[0].Default = true, api.JSON{Kind: api.JSONText, Text: strings.Repeat("a", many)}
		if ok, isCanon := keeps(t, s); ok != want || !isCanon {
			t.Errorf("P10.2: a default of %d letters: %t, %t", many, ok, isCanon)
		}
		s.Nodes[0].Fields[0].Default.Text = strings.Repeat("\n", many/2) + strings.Repeat("\u007f", many%2)
		if ok, isCanon := keeps(t, s); ok != want || !isCanon {
			t.Errorf("P10.2: a default of %d letters that stand behind a \\: %t, %t", many/2, ok, isCanon)
		}
	}
}

// TestMany: P10.1, P10.2: schemas of as many types and fields as may be, of names as long as may be.
func TestMany(t *testing.T) {
	for many, want := range map[int]bool{1: true, 10: true, 20: false, 256: false} {
		s := api.Avro{Nodes: make([]api.AvroNode, many)}
		for i := range s.Nodes {
			name := strconv.Itoa(i)
			s.Nodes[i] = api.AvroNode{Kind: api.AvroRecord, Name: strings.Repeat("a", 100) + "." + strings.Repeat("R", 27-len(name)) + name}
			for j := range 256 {
				name := strconv.Itoa(j)
				s.Nodes[i].Fields = append(s.Nodes[i].Fields, api.AvroField{Name: strings.Repeat("f", 128-len(name)) + name})
				if i == 0 {
					s.Nodes[i].Fields[j].Type = (j + 1) % many // each one first where the first one leads to it
				}
			}
		}
		if ok, _ := keeps(t, s); ok != want {
			t.Errorf("P10.2: %d records of 256 fields: %t", many, ok)
		}
		s.Nodes[0].Fields = append(s.Nodes[0].Fields, api.AvroField{Name: "f"})
		refuses(t, "257 fields", s)
	}
	s := nodes(api.AvroNode{Kind: api.AvroEnum, Name: "E"})
	for i := range 256 {
		s.Nodes[0].Symbols = append(s.Nodes[0].Symbols, "S"+strconv.Itoa(i))
	}
	s.Nodes[0].Has, s.Nodes[0].Default = true, "S255"
	if ok, _ := keeps(t, s); !ok {
		t.Errorf("P10.2: 256 symbols")
	}
	s.Nodes[0].Symbols = append(s.Nodes[0].Symbols, "S256")
	refuses(t, "257 symbols", s)
	for many, is := range map[int]bool{255: true, 256: false} {
		s := chain(0, api.AvroList, many, of(api.AvroInt))
		if normal, _, _ := modelled(s); is {
			tells(t, s, normal, normal)
		} else {
			refuses(t, "257 nodes", s)
		}
	}
}

// TestCanonOfSpaces: P10.2: where a member namespace stands in the normal form, Make of Canon may be another schema, or none.
func TestCanonOfSpaces(t *testing.T) {
	s := made(t, record("a.R", field("f", noSpace(fixed("F", 1)))))
	if ok, isCanon := keeps(t, s); !ok || !isCanon {
		t.Errorf("P10.2: %t, %t", ok, isCanon)
	}
	canon, _ := avrocanon.Canon(s)
	other := made(t, canon)
	tells(t, other, record("a.R", field("f", fixed("a.F", 1))), record("a.R", field("f", fixed("a.F", 1))))
	if avrocanon.Alike(s, other) || avro.Same(s, other) {
		t.Errorf("P10.2: Alike: %t; Same: %t", avrocanon.Alike(s, other), avro.Same(s, other))
	}
	s = made(t, union(record("a.R", field("f", noSpace(fixed("F", 1)))), `"F"`))
	if ok, isCanon := keeps(t, s); !ok || isCanon {
		t.Errorf("P10.2: %t, %t", ok, isCanon)
	}
	s = made(t, record("a.R", field("f", noSpace(fixed("F", 1))), field("g", fixed("a.F", 1))))
	if ok, isCanon := keeps(t, s); !ok || isCanon {
		t.Errorf("P10.2: %t, %t", ok, isCanon)
	}
}
