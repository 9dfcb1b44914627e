package avrocanon

import (
	"strconv"
	"strings"

	"lexicon/api"
	"lexicon/avro"
	"lexicon/jsontext"
)

// teller tells nodes of a schema that may be.
type teller struct {
	strings.Builder
	nodes []api.AvroNode
	kinds map[api.AvroKind]kind
	met   int  // how many nodes were met so far: the first ones, as they stand in the order in which they are met
	whole bool // with defaults and namespaces
}

// kind is how nodes of a named kind are told.
type kind struct {
	name string
	rest func(t *teller, n api.AvroNode) // what is told behind the type
}

// kinds tells how the named kinds are told.
func kinds() map[api.AvroKind]kind {
	return map[api.AvroKind]kind{
		api.AvroRecord: {"record", (*teller).record},
		api.AvroEnum:   {"enum", (*teller).enum},
		api.AvroFixed:  {"fixed", (*teller).fixed},
	}
}

// node tells a node that stands in a space, or where the space is empty.
func (t *teller) node(at int, inSpace bool) {
	n := t.nodes[at]
	if at < t.met {
		t.text(n.Name)
		return
	}
	t.met++
	switch n.Kind {
	case api.AvroRecord, api.AvroEnum, api.AvroFixed:
		t.named(n, inSpace)
	case api.AvroList:
		t.many(`{"type":"array","items":`, n, inSpace)
	case api.AvroMap:
		t.many(`{"type":"map","values":`, n, inSpace)
	case api.AvroUnion:
		list(t, n.Kids, func(kid int) { t.node(kid, inSpace) })
	default:
		name, _ := avro.Plain(n.Kind)
		t.text(name)
	}
}

// named tells a named node where it is met first.
func (t *teller) named(n api.AvroNode, inSpace bool) {
	t.WriteString(`{"name":`)
	t.text(n.Name)
	if t.whole && inSpace && !hasSpace(n.Name) {
		t.WriteString(`,"namespace":""`)
	}
	k := t.kinds[n.Kind]
	t.WriteString(`,"type":`)
	t.text(k.name)
	k.rest(t, n)
	t.WriteString("}")
}

// record tells a record's fields.
func (t *teller) record(n api.AvroNode) {
	t.WriteString(`,"fields":`)
	list(t, n.Fields, func(f api.AvroField) {
		t.WriteString(`{"name":`)
		t.text(f.Name)
		t.WriteString(`,"type":`)
		t.node(f.Type, hasSpace(n.Name))
		if f.Has && t.whole {
			t.WriteString(`,"default":`)
			t.Write(jsontext.Print(jsontext.Sorted(f.Default)))
		}
		t.WriteString("}")
	})
}

// enum tells an enum's symbols, and its default.
func (t *teller) enum(n api.AvroNode) {
	t.WriteString(`,"symbols":`)
	list(t, n.Symbols, t.text)
	if n.Has && t.whole {
		t.WriteString(`,"default":`)
		t.text(n.Default)
	}
}

// fixed tells the size of a fixed one.
func (t *teller) fixed(n api.AvroNode) {
	t.WriteString(`,"size":`)
	t.WriteString(strconv.Itoa(n.Size))
}

// many tells a list or a map, behind how it begins.
func (t *teller) many(begin string, n api.AvroNode, inSpace bool) {
	t.WriteString(begin)
	t.node(n.Kids[0], inSpace)
	t.WriteString("}")
}

// list tells a list, each element by tell.
func list[T any](t *teller, elements []T, tell func(T)) {
	t.WriteString("[")
	for i, one := range elements {
		if i > 0 {
			t.WriteString(",")
		}
		tell(one)
	}
	t.WriteString("]")
}

// text tells a name or a symbol, whose letters and length jsontext never refuses.
func (t *teller) text(s string) {
	quoted, _ := jsontext.Quote(s)
	t.WriteString(quoted)
}

// hasSpace tells whether a full name's space is not empty.
func hasSpace(name string) bool { return strings.Contains(name, ".") }
