package avrocompat_test

import (
	"fmt"
	"slices"
	"strings"

	"lexicon/api"
)

// tree is a node that leads to others themselves, not to their numbers; a named one may be led to more than once.
type tree struct {
	kind    api.AvroKind
	name    string
	fields  []part
	symbols []string
	has     bool
	or      string
	size    int
	kids    []*tree
}

// part is a field.
type part struct {
	name string
	of   *tree
	has  bool
	or   api.JSON
}

// laid is the schema of a tree.
func laid(root *tree) api.Avro {
	var s api.Avro
	numbers := map[*tree]int{}
	var lay func(t *tree) int
	lay = func(t *tree) int {
		if at, ok := numbers[t]; ok {
			return at
		}
		at := len(s.Nodes)
		numbers[t] = at
		n := api.AvroNode{Kind: t.kind, Name: t.name, Symbols: t.symbols, Has: t.has, Default: t.or, Size: t.size}
		s.Nodes = append(s.Nodes, n)
		for _, f := range t.fields {
			n.Fields = append(n.Fields, api.AvroField{Name: f.name, Type: lay(f.of), Has: f.has, Default: f.or})
		}
		for _, kid := range t.kids {
			n.Kids = append(n.Kids, lay(kid))
		}
		s.Nodes[at] = n
		return at
	}
	lay(root)
	return s
}

// numbers are numbers of no plain order, below what is asked.
func numbers(seed uint64) func(n int) int {
	return func(n int) int {
		seed = seed*6364136223846793005 + 1442695040888963407
		return int(seed >> 33 % uint64(n))
	}
}

// maker makes schemas and values of no plain order.
type maker struct {
	next   func(n int) int
	spaces []string // those that names have
	names  int      // how many last parts there are
	named  []*tree
	many   int // how many nodes there are
}

// fresh is a maker of another schema: its names have spaces, or all have none.
func (g *maker) fresh() *maker {
	m := &maker{next: g.next, spaces: []string{"a.", "a.b.", "c."}, names: 3}
	if g.once(3) {
		m.spaces, m.names = []string{""}, 8
	}
	return m
}

// once tells whether it is time for what comes once in n times.
func (g *maker) once(n int) bool { return g.next(n) == 0 }

// pick is one of some texts.
func (g *maker) pick(l ...string) string { return l[g.next(len(l))] }

// shuffle brings a list in another order.
func shuffle[T any](g *maker, l []T) []T {
	l = slices.Clone(l)
	for i := range l {
		j := g.next(i + 1)
		l[i], l[j] = l[j], l[i]
	}
	return l
}

// name is a name that is not there yet, with that last part, if it finds one.
func (g *maker) name(last string) string {
	name := g.pick(g.spaces...) + last
	for i := 0; slices.ContainsFunc(g.named, func(t *tree) bool { return t.name == name }); i++ {
		if i > 20 {
			last = fmt.Sprint("M", i)
		}
		name = g.pick(g.spaces...) + last
	}
	return name
}

// whole is a tree with defaults.
func (g *maker) whole(depth int) *tree {
	t := g.tree(depth, false)
	g.defaults(t)
	return t
}

// tree is a node; within a union it is none.
func (g *maker) tree(depth int, within bool) *tree {
	if len(g.named) > 0 && g.once(4) {
		return g.named[g.next(len(g.named))]
	}
	kind := api.AvroKind(g.next(8))
	if depth > 0 && g.many < 40 && !g.once(3) {
		kind = api.AvroKind(8 + g.next(6))
		if within && kind == api.AvroUnion {
			kind = api.AvroRecord
		}
	}
	return g.kind(kind, depth)
}

// kind is a new node of a kind.
func (g *maker) kind(kind api.AvroKind, depth int) *tree {
	t := &tree{kind: kind}
	g.many++
	if isNamed(kind) {
		t.name = g.name(fmt.Sprint("N", g.next(g.names)))
		g.named = append(g.named, t)
	}
	switch kind {
	case api.AvroRecord:
		for _, name := range shuffle(g, []string{"a", "b", "c", "d"})[:g.next(5)] {
			t.fields = append(t.fields, part{name: name, of: g.tree(depth-1, false)})
		}
	case api.AvroEnum:
		t.symbols = shuffle(g, []string{"A", "B", "C", "D"})[:g.next(4)+1]
		if t.has = g.once(2); t.has {
			t.or = g.pick(t.symbols...)
		}
	case api.AvroFixed:
		t.size = g.next(3)
	case api.AvroList, api.AvroMap:
		t.kids = []*tree{g.tree(depth-1, false)}
	case api.AvroUnion:
		for range g.next(5) + 1 {
			t.kids = joined(t.kids, g.tree(depth-1, true))
		}
	}
	return t
}

// joined are branches with one more, if it may stand beside them.
func joined(l []*tree, t *tree) []*tree {
	if t.kind == api.AvroUnion || slices.ContainsFunc(l, func(other *tree) bool { return other.kind == t.kind && other.name == t.name }) {
		return l
	}
	return append(l, t)
}

// defaults gives some fields of a tree defaults.
func (g *maker) defaults(root *tree) {
	met := map[*tree]bool{}
	var walk func(t *tree)
	walk = func(t *tree) {
		if met[t] {
			return
		}
		met[t] = true
		for i := range t.fields {
			f := &t.fields[i]
			walk(f.of)
			if v, ok := g.fitting(f.of, 5); ok && !g.once(4) {
				f.has, f.or = true, v
			}
		}
		for _, kid := range t.kids {
			walk(kid)
		}
	}
	walk(root)
}

// fitting is a default that fits; not, if it finds none that is no deeper.
func (g *maker) fitting(t *tree, depth int) (api.JSON, bool) {
	if depth == 0 {
		return api.JSON{}, false
	}
	switch t.kind {
	case api.AvroNull:
		return api.JSON{}, true
	case api.AvroBool:
		return api.JSON{Kind: api.JSONBool, Bool: g.once(2)}, true
	case api.AvroInt, api.AvroLong, api.AvroFloat, api.AvroDouble:
		return api.JSON{Kind: api.JSONNumber}, true
	case api.AvroBytes, api.AvroText:
		return api.JSON{Kind: api.JSONText, Text: g.pick("", "a", "\u00e9")}, true
	case api.AvroEnum:
		return api.JSON{Kind: api.JSONText, Text: g.pick(t.symbols...)}, true
	case api.AvroFixed:
		return api.JSON{Kind: api.JSONText, Text: strings.Repeat("x", t.size)}, true
	case api.AvroList:
		return api.JSON{Kind: api.JSONList}, true
	case api.AvroMap:
		return api.JSON{Kind: api.JSONObject}, true
	case api.AvroUnion:
		return g.fitting(t.kids[0], depth)
	}
	v, ok := api.JSON{Kind: api.JSONObject}, true
	for _, f := range t.fields {
		one, is := g.fitting(f.of, depth-1)
		ok = ok && is
		v.Names, v.List = append(v.Names, f.name), append(v.List, one)
	}
	return v, ok
}

// datum is a value that fits; not, if it finds none that is no deeper.
func (g *maker) datum(t *tree, depth int) (api.Datum, bool) {
	d := api.Datum{Kind: t.kind}
	if depth == 0 {
		return d, false
	}
	right := true
	put := func(t *tree) {
		v, ok := g.datum(t, depth-1)
		right = right && ok
		d.List = append(d.List, v)
	}
	switch t.kind {
	case api.AvroInt, api.AvroLong:
		d.Int = int64(g.next(9) - 4)
	case api.AvroBytes:
		d.Bytes = []byte(g.pick("", "a", "\u00e9", "\xff"))
	case api.AvroText:
		d.Bytes = []byte(g.pick("", "a", "\u00e9"))
	case api.AvroRecord:
		for _, f := range t.fields {
			put(f.of)
		}
	case api.AvroEnum:
		d.Int = int64(g.next(len(t.symbols)))
	case api.AvroFixed:
		d.Bytes = []byte("a\xff")[:t.size]
	case api.AvroList, api.AvroMap:
		for i := range g.next(4) {
			if v, ok := g.datum(t.kids[0], depth-1); ok {
				d.List = append(d.List, v)
				if t.kind == api.AvroMap {
					d.Keys = append(d.Keys, fmt.Sprint(i))
				}
			}
		}
	case api.AvroUnion:
		d.Int = int64(g.next(len(t.kids)))
		put(t.kids[d.Int])
	}
	return d, right
}

// later makes of a writer's tree one that reads much of what it writes.
type later struct {
	*maker
	tame int // once in so many places it makes what reads less
	made map[*tree]*tree
}

// later is another maker's tree that reads much of what one writes.
func (g *maker) later(t *tree, tame int) *tree {
	l := &later{g, tame, map[*tree]*tree{}}
	r := l.tree(t, false)
	g.defaults(r)
	return r
}

// tree is a node in a node's place; within a union it is none.
func (l *later) tree(t *tree, within bool) *tree {
	if r, ok := l.made[t]; ok {
		return r
	}
	if l.once(l.tame) {
		return l.maker.tree(1, within)
	}
	if t.kind == api.AvroUnion {
		if l.once(6) || within {
			return l.tree(t.kids[l.next(len(t.kids))], within)
		}
	} else if !within && l.once(5) {
		return &tree{kind: api.AvroUnion, kids: l.branches([]*tree{t})}
	}
	return l.kind(t)
}

// branches are those of a union that has nodes in the place of some.
func (l *later) branches(kids []*tree) []*tree {
	var r []*tree
	for _, kid := range shuffle(l.maker, kids) {
		if !l.once(l.tame) {
			r = joined(r, l.tree(kid, true))
		}
	}
	for len(r) == 0 || l.once(3) {
		r = joined(r, l.maker.tree(0, true))
	}
	return shuffle(l.maker, r)
}

// kind is a node of the same kind, or one into which that goes.
func (l *later) kind(t *tree) *tree {
	r := &tree{kind: t.kind, size: t.size}
	l.many++
	if isNamed(t.kind) {
		r.name = l.name(lastPart(t.name))
		l.made[t] = r
		l.named = append(l.named, r)
	}
	switch t.kind {
	case api.AvroInt, api.AvroLong, api.AvroFloat, api.AvroBytes, api.AvroText:
		if to := api.AvroKind(l.next(8)); goesInto(t.kind, to) || t.kind == api.AvroBytes && to == api.AvroText && l.once(l.tame) {
			r.kind = to
		}
	case api.AvroRecord:
		for _, f := range shuffle(l.maker, t.fields) {
			if !l.once(4) {
				r.fields = append(r.fields, part{name: f.name, of: l.tree(f.of, false)})
			}
		}
		for _, name := range []string{"x", "y"} {
			if l.once(3) {
				r.fields = append(r.fields, part{name: name, of: l.maker.tree(1, false)})
			}
		}
		r.fields = shuffle(l.maker, r.fields)
	case api.AvroEnum:
		r.symbols = shuffle(l.maker, append(slices.Clone(t.symbols), "X", "Y"))
		if r.has = l.once(2); r.has || l.once(l.tame) {
			r.symbols = r.symbols[:l.next(len(r.symbols))+1]
		}
		if r.has {
			r.or = l.pick(r.symbols...)
		}
	case api.AvroFixed:
		if l.once(l.tame) {
			r.size = l.next(3)
		}
	case api.AvroUnion:
		r.kids = l.branches(t.kids)
	case api.AvroList, api.AvroMap:
		r.kids = []*tree{l.tree(t.kids[0], false)}
	}
	return r
}

// copier tells trees with the fields of records in another order, and with other names.
type copier struct {
	*maker
	names func(name string) string
	made  map[*tree]*tree
}

// anew is a tree with the fields of records in another order, and with other names.
func (g *maker) anew(t *tree, names func(name string) string) *tree {
	return (&copier{g, names, map[*tree]*tree{}}).tree(t)
}

// tree is a tree told anew.
func (c *copier) tree(t *tree) *tree {
	if r, ok := c.made[t]; ok {
		return r
	}
	r := &tree{kind: t.kind, symbols: t.symbols, has: t.has, or: t.or, size: t.size}
	if isNamed(t.kind) {
		r.name = c.names(t.name)
	}
	c.made[t] = r
	for _, f := range shuffle(c.maker, t.fields) {
		r.fields = append(r.fields, part{name: f.name, of: c.tree(f.of), has: f.has, or: f.or})
	}
	for _, kid := range t.kids {
		r.kids = append(r.kids, c.tree(kid))
	}
	return r
}
