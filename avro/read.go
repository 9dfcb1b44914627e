package avro

import (
	"slices"

	"lexicon/api"
	"lexicon/jsontext"
)

const maxSize = 1 << 16 // of a fixed one

// reader reads texts into nodes, which it numbers as it comes by them.
type reader struct {
	kinds   map[string]api.AvroKind
	nodes   []api.AvroNode // of all texts so far
	defined names
}

// take reads an import, whose names are defined from then on.
func (r *reader) take(i api.Import) {
	from := len(r.nodes)
	r.whole([]byte(i.Text))
	at, ok := r.defined[i.Name]
	if !ok || at < from {
		panic(api.ErrName)
	}
}

// whole reads a text, and tells the numbers of its schema's nodes in their order.
func (r *reader) whole(text []byte) []int {
	v, e := jsontext.Parse(text)
	if e != api.OK {
		panic(e)
	}
	from := len(r.nodes)
	order := ordered(r.nodes, r.schema(v, ""))
	for _, n := range r.nodes[from:] {
		askDefaults(r.nodes, n)
	}
	return order
}

// schema reads what stands where a schema is to stand. None stands in more than MaxDepth others:
// jsontext refuses a text that nests so deep.
func (r *reader) schema(v api.JSON, space string) int {
	switch v.Kind {
	case api.JSONText:
		return r.named(v.Text, space)
	case api.JSONList:
		return r.union(v.List, space)
	case api.JSONObject:
		return r.object(v, space)
	}
	panic(api.ErrAvro)
}

// add lays a new node.
func (r *reader) add(n api.AvroNode) int {
	r.nodes = append(r.nodes, n)
	return len(r.nodes) - 1
}

// named reads a name.
func (r *reader) named(name, space string) int {
	if kind, ok := r.kinds[name]; ok && isPlain(kind) {
		return r.add(api.AvroNode{Kind: kind})
	}
	at, ok := r.defined[within(space, name)]
	if !ok {
		panic(api.ErrName)
	}
	return at
}

// union reads a list.
func (r *reader) union(list []api.JSON, space string) int {
	at := r.add(api.AvroNode{Kind: api.AvroUnion})
	b := branches{}
	for _, v := range list {
		kid := r.schema(v, space)
		b.add(r.nodes[kid])
		r.nodes[at].Kids = append(r.nodes[at].Kids, kid)
	}
	if len(b) == 0 {
		panic(api.ErrAvro)
	}
	return at
}

// branches are a union's so far: of named ones the Name counts, too.
type branches map[branch]struct{}

// branch is what two branches may not have in common.
type branch struct {
	kind api.AvroKind
	name string
}

// add puts one more to them.
func (l branches) add(n api.AvroNode) {
	b := branch{n.Kind, n.Name}
	if _, there := l[b]; there || n.Kind == api.AvroUnion {
		panic(api.ErrAvro)
	}
	l[b] = struct{}{}
}

// object reads an object, by its member type.
func (r *reader) object(v api.JSON, space string) int {
	of := asked(v, "type")
	switch r.kinds[of.Text] { // what names no kind goes as null does: the schema in the object's place
	case api.AvroRecord:
		return r.record(v, space)
	case api.AvroEnum:
		return r.enum(v, space)
	case api.AvroFixed:
		return r.fixed(v, space)
	case api.AvroList:
		return r.many(api.AvroList, asked(v, "items"), space)
	case api.AvroMap:
		return r.many(api.AvroMap, asked(v, "values"), space)
	}
	return r.schema(of, space)
}

// many reads what a list, or a map, is of.
func (r *reader) many(kind api.AvroKind, of api.JSON, space string) int {
	at := r.add(api.AvroNode{Kind: kind})
	kid := r.schema(of, space)
	r.nodes[at].Kids = []int{kid}
	return at
}

// define reads the name of a named one, which is defined from then on.
func (r *reader) define(kind api.AvroKind, v api.JSON, space string) int {
	name := textOf(asked(v, "name"))
	if own, ok := member(v, "namespace"); ok && !hasPoint(name) {
		space = textOf(own)
	}
	at := r.add(api.AvroNode{Kind: kind, Name: within(space, name)})
	r.defined.add(r.nodes[at].Name, at)
	return at
}

// record reads a record.
func (r *reader) record(v api.JSON, space string) int {
	at := r.define(api.AvroRecord, v, space)
	own, l := spaceOf(r.nodes[at].Name), parts{}
	each(v, "fields", func(v api.JSON) {
		f := api.AvroField{Name: textOf(asked(v, "name"))}
		l.add(f.Name)
		f.Type = r.schema(asked(v, "type"), own)
		f.Default, f.Has = member(v, "default")
		r.nodes[at].Fields = append(r.nodes[at].Fields, f)
	})
	return at
}

// enum reads an enum.
func (r *reader) enum(v api.JSON, space string) int {
	at := r.define(api.AvroEnum, v, space)
	n, l := &r.nodes[at], parts{}
	each(v, "symbols", func(v api.JSON) {
		l.add(textOf(v))
		n.Symbols = append(n.Symbols, v.Text)
	})
	if len(l) == 0 {
		panic(api.ErrAvro)
	}
	or, has := member(v, "default")
	if has && !isSymbol(*n, or.Text) {
		panic(api.ErrDefault)
	}
	n.Has, n.Default = has, or.Text
	return at
}

// fixed reads a fixed one.
func (r *reader) fixed(v api.JSON, space string) int {
	at := r.define(api.AvroFixed, v, space)
	size, ok := jsontext.Int(asked(v, "size"))
	if !ok || !isSize(size) {
		panic(api.ErrAvro)
	}
	r.nodes[at].Size = int(size)
	return at
}

// each goes through the list that a member must be.
func each(v api.JSON, name string, do func(api.JSON)) {
	l := asked(v, name)
	if l.Kind != api.JSONList || len(l.List) > api.MaxTypes {
		panic(api.ErrAvro)
	}
	for _, v := range l.List {
		do(v)
	}
}

// asked tells the value of a member that must be there; null, which none of these may be, if it is not
// there, or v is no object.
func asked(v api.JSON, name string) api.JSON {
	m, _ := member(v, name)
	return m
}

// textOf tells the text that a value must be.
func textOf(v api.JSON) string {
	if v.Kind != api.JSONText {
		panic(api.ErrAvro)
	}
	return v.Text
}

// member tells the value of an object's member, if it is there. (jsontext's Get would ask and copy the
// whole of it each time.)
func member(v api.JSON, name string) (api.JSON, bool) {
	at := slices.Index(v.Names, name)
	if at < 0 {
		return api.JSON{}, false
	}
	return v.List[at], true
}
