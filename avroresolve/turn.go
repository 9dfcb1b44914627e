package avroresolve

import (
	"slices"

	"lexicon/api"
)

// turner makes values of the reader's.
type turner struct {
	writer, reader []api.AvroNode
	goes           map[api.AvroKind][]api.AvroKind
	deep           int  // how many values are being made, in one another
	many           int  // how many values were begun
	keeps          bool // whether values have their bytes and keys, or are but counted
}

// allow gives up, if what is asked for is refused.
func allow(is bool) {
	if !is {
		panic(api.ErrResolve)
	}
}

// whole tells a whole value, first so that it is but counted: where a long default stands in each of many
// records, it is not copied that often, if they are too many.
func (t *turner) whole(tell func() api.Datum) (api.Datum, api.Errno) {
	if _, e := caught(tell); e != api.OK {
		return api.Datum{}, e
	}
	t.many, t.keeps = 0, true
	return caught(tell)
}

// made tells a value of a kind, all else of it by tell. It counts ahead of that: what layer 11 would not take,
// as it is too deep or too many, is not made first.
func (t *turner) made(kind api.AvroKind, tell func() api.Datum) api.Datum {
	t.deep++
	t.many++
	allow(t.deep <= api.MaxDepth && t.many <= api.MaxData)
	d := tell()
	d.Kind = kind
	t.deep--
	return d
}

// turn turns a value of the writer's node into one of the reader's.
func (t *turner) turn(w, r int, d api.Datum) api.Datum {
	from, to := t.writer[w], t.reader[r]
	if from.Kind == api.AvroUnion {
		return t.turn(from.Kids[d.Int], r, d.List[0])
	}
	return t.made(to.Kind, func() api.Datum {
		switch to.Kind {
		case api.AvroUnion:
			at := t.branch(from, to)
			return api.Datum{Int: int64(at), List: []api.Datum{t.turn(w, to.Kids[at], d)}}
		case from.Kind:
			return t.alike(from, to, d)
		}
		return t.gone(from.Kind, to.Kind, d)
	})
}

// branch tells a union's branch for a node.
func (t *turner) branch(from, union api.AvroNode) int {
	for _, is := range []func(to api.AvroNode) bool{
		func(to api.AvroNode) bool { return to.Kind == from.Kind && to.Name == from.Name },
		func(to api.AvroNode) bool { return to.Kind == from.Kind && last(to.Name) == last(from.Name) },
		func(to api.AvroNode) bool { return slices.Contains(t.goes[from.Kind], to.Kind) },
	} {
		at := slices.IndexFunc(union.Kids, func(kid int) bool { return is(t.reader[kid]) })
		if at >= 0 {
			return at
		}
	}
	panic(api.ErrResolve)
}

// alike turns a value of a node of the same kind.
func (t *turner) alike(from, to api.AvroNode, d api.Datum) api.Datum {
	allow(last(from.Name) == last(to.Name))
	c := d
	c.Bytes, c.Keys, c.List = kept(t, d.Bytes), t.keys(d.Keys), nil
	switch to.Kind {
	case api.AvroFixed:
		allow(from.Size == to.Size)
	case api.AvroEnum:
		c.Int = place(to, from.Symbols[d.Int])
	case api.AvroRecord:
		c.List = t.fields(from, to, d)
	case api.AvroList, api.AvroMap:
		for _, v := range d.List {
			c.List = append(c.List, t.turn(from.Kids[0], to.Kids[0], v))
		}
	}
	return c
}

// place tells the place of an enum's symbol of that text, or else of its default.
func place(enum api.AvroNode, symbol string) int64 {
	at := slices.Index(enum.Symbols, symbol)
	if at < 0 && enum.Has {
		at = slices.Index(enum.Symbols, enum.Default)
	}
	allow(at >= 0)
	return int64(at)
}

// fields tells the values of a record's fields.
func (t *turner) fields(from, to api.AvroNode, d api.Datum) []api.Datum {
	var l []api.Datum
	for _, f := range to.Fields {
		at := slices.IndexFunc(from.Fields, func(other api.AvroField) bool { return other.Name == f.Name })
		if at >= 0 {
			l = append(l, t.turn(from.Fields[at].Type, f.Type, d.List[at]))
			continue
		}
		allow(f.Has)
		l = append(l, t.standing(f.Type, f.Default))
	}
	return l
}
