package avrocompat

import (
	"lexicon/api"
)

// maker makes a witness along the steps of pairs that fail.
type maker struct {
	*checker
	deep  int  // how many values are being made, in one another
	many  int  // how many values were begun
	keeps bool // whether fixed ones have their bytes, or are but counted
}

// witness makes a value of the writer's root that is refused, first so that it is but counted: if they are too
// many, the bytes of those ahead are not made.
func (m *maker) witness() api.Datum {
	m.refused(m.roots)
	m.many, m.keeps = 0, true
	return m.refused(m.roots)
}

// refused makes a value of the pair's writer's node that is refused.
func (m *maker) refused(p api.AvroStep) api.Datum {
	s := m.fails[p]
	if s.at == nowhere && s.to != p {
		return m.refused(s.to) // the same value, for a branch of the reader's
	}
	d := m.value(p.Writer, s)
	switch d.Kind {
	case api.AvroBytes:
		d.Bytes = []byte{0xff} // no UTF-8
	case api.AvroEnum:
		d.Int = int64(max(0, m.lacking(p)))
	}
	return d
}

// value makes a value of the writer's node, which is refused where the step goes; all else is the least deep.
func (m *maker) value(w int, s step) api.Datum {
	m.deep++
	m.many++
	if m.deep > api.MaxDepth || m.many > api.MaxData {
		panic(api.ErrLong)
	}
	n := m.writer.nodes[w]
	d := api.Datum{Kind: n.Kind}
	switch n.Kind {
	case api.AvroFixed:
		if m.keeps {
			d.Bytes = make([]byte, n.Size)
		}
	case api.AvroRecord:
		for at, f := range n.Fields {
			d.List = append(d.List, m.part(at, f.Type, s))
		}
	case api.AvroUnion:
		at := s.at
		if at == nowhere {
			at = shallowest(n, m.depths)
		}
		d.Int, d.List = int64(at), []api.Datum{m.part(at, n.Kids[at], s)}
	case api.AvroMap:
		if s.at != nowhere {
			d.Keys = []string{""}
		}
		fallthrough
	case api.AvroList:
		if s.at != nowhere {
			d.List = []api.Datum{m.refused(s.to)}
		}
	}
	m.deep--
	return d
}

// part makes the value of a field, of a branch, at a place.
func (m *maker) part(at, w int, s step) api.Datum {
	if at == s.at {
		return m.refused(s.to)
	}
	return m.value(w, step{at: nowhere})
}
