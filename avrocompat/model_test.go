package avrocompat_test

import (
	"slices"
	"strings"
	"unicode/utf8"

	"lexicon/api"
)

// same tells whether two values are the same, nil and empty meaning one thing.
func same(a, b api.Datum) bool {
	return a.Kind == b.Kind && a.Bool == b.Bool && a.Int == b.Int && a.Bits == b.Bits && string(a.Bytes) == string(b.Bytes) && slices.Equal(a.Keys, b.Keys) && slices.EqualFunc(a.List, b.List, same)
}

// nested is how many values of a value are nested in one another.
func nested(d api.Datum) int {
	deepest := 0
	for _, v := range d.List {
		deepest = max(deepest, nested(v))
	}
	return deepest + 1
}

// total is how many values a value has in all.
func total(d api.Datum) int {
	n := 1
	for _, v := range d.List {
		n += total(v)
	}
	return n
}

// lastPart is a name's last part.
func lastPart(name string) string {
	l := strings.Split(name, ".")
	return l[len(l)-1]
}

// goesInto tells whether each value of a kind goes into another, by their names; bytes do not go into string, not each.
func goesInto(from, to api.AvroKind) bool {
	names := []string{"null", "boolean", "int", "long", "float", "double", "bytes", "string"}
	if from > 7 || to > 7 {
		return false
	}
	switch names[from] + " into " + names[to] {
	case "int into long", "int into float", "int into double", "long into float", "long into double", "float into double", "string into bytes":
		return true
	}
	return false
}

// isNamed tells whether nodes of a kind have names.
func isNamed(kind api.AvroKind) bool { return 8 <= kind && kind <= 10 }

// valuesOf tells of each node whether it has values, by the chapter's words, gone round till nothing more comes.
func valuesOf(s api.Avro) []bool {
	l := make([]bool, len(s.Nodes))
	for more := true; more; {
		more = false
		for i, n := range s.Nodes {
			has := true
			for _, f := range n.Fields {
				has = has && l[f.Type]
			}
			if n.Kind == api.AvroUnion {
				has = slices.ContainsFunc(n.Kids, func(kid int) bool { return l[kid] })
			}
			if has && !l[i] {
				l[i], more = true, true
			}
		}
	}
	return l
}

// model is what the chapter's words ask of a writer's schema and a reader's.
type model struct {
	w, r   api.Avro
	values []bool                // of the writer's nodes
	fails  map[api.AvroStep]bool // pairs of which a value is refused
	gets   map[api.AvroStep]bool // pairs of which a value is turned
}

// modelOf is the model of two schemas: its maps have pairs to which values come from both roots.
func modelOf(w, r api.Avro) *model {
	m := &model{w: w, r: r, values: valuesOf(w), fails: map[api.AvroStep]bool{}, gets: map[api.AvroStep]bool{}}
	var pairs []api.AvroStep
	met := map[api.AvroStep]bool{}
	var meet func(p api.AvroStep)
	meet = func(p api.AvroStep) {
		if !met[p] {
			met[p] = true
			for _, q := range m.next(p) {
				meet(q)
			}
			pairs = append(pairs, p)
		}
	}
	if m.values[w.Root] {
		meet(m.roots())
	}
	for more := true; more; {
		more = false
		for _, p := range pairs {
			if !m.fails[p] && (m.ends(p) || slices.ContainsFunc(m.next(p), func(q api.AvroStep) bool { return m.fails[q] })) {
				m.fails[p], more = true, true
			}
			if !m.gets[p] && m.through(p) {
				m.gets[p], more = true, true
			}
		}
	}
	return m
}

// roots is the pair of both roots.
func (m *model) roots() api.AvroStep { return api.AvroStep{Writer: m.w.Root, Reader: m.r.Root} }

// reads tells whether the reader reads the writer.
func (m *model) reads() bool { return !m.fails[m.roots()] }

// branch is the pair of the writer's node and the reader's branch for it, and whether there is one.
func (m *model) branch(p api.AvroStep) (api.AvroStep, bool) {
	from := m.w.Nodes[p.Writer]
	found := [3]int{-1, -1, -1}
	for _, kid := range slices.Backward(m.r.Nodes[p.Reader].Kids) {
		to := m.r.Nodes[kid]
		if to.Kind == from.Kind && (!isNamed(from.Kind) || to.Name == from.Name) {
			found[0] = kid
		}
		if to.Kind == from.Kind && (!isNamed(from.Kind) || lastPart(to.Name) == lastPart(from.Name)) {
			found[1] = kid
		}
		if goesInto(from.Kind, to.Kind) || from.Kind == api.AvroBytes && to.Kind == api.AvroText {
			found[2] = kid
		}
	}
	for _, kid := range found {
		if kid >= 0 {
			return api.AvroStep{Writer: p.Writer, Reader: kid}, true
		}
	}
	return p, false
}

// part is the pair of a reader's field and the writer's of that name, the latter's place, and whether there is one.
func (m *model) part(p api.AvroStep, f api.AvroField) (api.AvroStep, int, bool) {
	for i, other := range m.w.Nodes[p.Writer].Fields {
		if other.Name == f.Name {
			return api.AvroStep{Writer: other.Type, Reader: f.Type}, i, true
		}
	}
	return p, 0, false
}

// ends tells whether no value, or not each one, gets through a pair, whatever is within.
func (m *model) ends(p api.AvroStep) bool {
	from, to := m.w.Nodes[p.Writer], m.r.Nodes[p.Reader]
	switch {
	case from.Kind == api.AvroUnion:
		return false
	case to.Kind == api.AvroUnion:
		_, ok := m.branch(p)
		return !ok
	case from.Kind != to.Kind:
		return !goesInto(from.Kind, to.Kind)
	case isNamed(from.Kind) && lastPart(from.Name) != lastPart(to.Name), from.Size != to.Size:
		return true
	}
	for _, f := range to.Fields {
		if _, _, ok := m.part(p, f); !ok && !f.Has {
			return true
		}
	}
	for _, symbol := range from.Symbols {
		if !slices.Contains(to.Symbols, symbol) && !to.Has {
			return true
		}
	}
	return false
}

// next are the pairs to which values come from one.
func (m *model) next(p api.AvroStep) []api.AvroStep {
	from, to := m.w.Nodes[p.Writer], m.r.Nodes[p.Reader]
	var l []api.AvroStep
	switch {
	case m.ends(p):
	case from.Kind == api.AvroUnion:
		for _, kid := range from.Kids {
			l = append(l, api.AvroStep{Writer: kid, Reader: p.Reader})
		}
	case to.Kind == api.AvroUnion:
		q, _ := m.branch(p)
		l = append(l, q)
	case from.Kind == api.AvroRecord:
		for _, f := range to.Fields {
			if q, _, ok := m.part(p, f); ok {
				l = append(l, q)
			}
		}
	case len(from.Kids) > 0:
		l = append(l, api.AvroStep{Writer: from.Kids[0], Reader: to.Kids[0]})
	}
	return slices.DeleteFunc(l, func(q api.AvroStep) bool { return !m.values[q.Writer] })
}

// through tells whether a value gets through a pair, by what is known of others.
func (m *model) through(p api.AvroStep) bool {
	from, to := m.w.Nodes[p.Writer], m.r.Nodes[p.Reader]
	switch {
	case from.Kind == api.AvroUnion:
		return slices.ContainsFunc(m.next(p), func(q api.AvroStep) bool { return m.gets[q] })
	case to.Kind == api.AvroUnion:
		q, ok := m.branch(p)
		return ok && m.gets[q]
	case from.Kind == api.AvroBytes && to.Kind == api.AvroText:
		return true
	case from.Kind == api.AvroEnum && to.Kind == api.AvroEnum && lastPart(from.Name) == lastPart(to.Name):
		return to.Has || slices.ContainsFunc(from.Symbols, func(s string) bool { return slices.Contains(to.Symbols, s) })
	case from.Kind == api.AvroRecord && !m.ends(p):
		return !slices.ContainsFunc(m.next(p), func(q api.AvroStep) bool { return !m.gets[q] })
	}
	return !m.ends(p)
}

// wrong tells what of a path is not as the chapter's words ask: nothing, if it is right.
func (m *model) wrong(path []api.AvroStep) string {
	met := map[api.AvroStep]bool{}
	for i, p := range path {
		switch {
		case met[p]:
			return "a pair twice"
		case i == 0 && p != m.roots():
			return "it does not begin at the roots"
		case !m.values[p.Writer]:
			return "no value goes through it"
		case m.ends(p) != (i == len(path)-1):
			return "it does not end where a value is refused"
		case i > 0 && !slices.Contains(m.reached(path[i-1]), p):
			return "a pair to which turning does not come"
		}
		met[p] = true
	}
	if len(path) == 0 {
		return "no path"
	}
	return ""
}

// reached are the pairs to which turning comes from one: a record's fields up to the first of which each value is refused.
func (m *model) reached(p api.AvroStep) []api.AvroStep {
	l := m.next(p)
	if m.w.Nodes[p.Writer].Kind != api.AvroRecord {
		return l
	}
	for i, q := range l {
		if !m.gets[q] {
			return l[:i+1]
		}
	}
	return l
}

// trace are the pairs through which a value of the writer's goes from a pair on, and whether it is refused at the last one.
func (m *model) trace(p api.AvroStep, d api.Datum) ([]api.AvroStep, bool) {
	from, to := m.w.Nodes[p.Writer], m.r.Nodes[p.Reader]
	at := []api.AvroStep{p}
	on := func(q api.AvroStep, d api.Datum) bool {
		l, refused := m.trace(q, d)
		if refused {
			at = append(at, l...)
		}
		return refused
	}
	refused := false
	switch {
	case from.Kind == api.AvroUnion:
		refused = on(api.AvroStep{Writer: from.Kids[d.Int], Reader: p.Reader}, d.List[0])
	case m.ends(p):
		bytes := from.Kind == api.AvroBytes && to.Kind == api.AvroText && utf8.Valid(d.Bytes)
		symbol := from.Kind == api.AvroEnum && to.Kind == api.AvroEnum && lastPart(from.Name) == lastPart(to.Name) && slices.Contains(to.Symbols, from.Symbols[d.Int])
		return at, !bytes && !symbol
	case to.Kind == api.AvroUnion:
		q, _ := m.branch(p)
		refused = on(q, d)
	case from.Kind == api.AvroRecord:
		for _, f := range to.Fields {
			if q, i, ok := m.part(p, f); ok && !refused {
				refused = on(q, d.List[i])
			}
		}
	default:
		for _, v := range d.List {
			refused = refused || on(api.AvroStep{Writer: from.Kids[0], Reader: to.Kids[0]}, v)
		}
	}
	return at, refused
}
