package avrocompat

import (
	"slices"

	"lexicon/api"
	"lexicon/avroresolve"
)

// side is a schema's nodes, and what is asked of them for each pair anew.
type side struct {
	nodes  []api.AvroNode
	last   []string         // the last parts of their names
	places []map[string]int // the places of a record's fields, of an enum's symbols, by their names
}

// sideOf tells a schema's.
func sideOf(s api.Avro) side {
	of := side{nodes: s.Nodes}
	for _, n := range s.Nodes {
		places := map[string]int{}
		for at, f := range n.Fields {
			places[f.Name] = at
		}
		for at, symbol := range n.Symbols {
			places[symbol] = at
		}
		of.last, of.places = append(of.last, avroresolve.Last(n.Name)), append(of.places, places)
	}
	return of
}

// checker holds a writer's schema against a reader's.
type checker struct {
	writer, reader side
	roots          api.AvroStep
	depths         []int                   // of the writer's nodes
	least          map[api.AvroStep]answer // of pairs that were asked
	fails          map[api.AvroStep]step   // the way from both roots to where a value is refused
}

// answer tells whether the least deep value of a pair's writer's node is turned.
type answer struct{ passes bool }

// isRefused tells whether a pair is where values are refused, whatever is within.
func (c *checker) isRefused(p api.AvroStep) bool {
	from, to := &c.writer.nodes[p.Writer], &c.reader.nodes[p.Reader]
	switch {
	case from.Kind == api.AvroUnion:
		return false
	case to.Kind == api.AvroUnion:
		return c.branch(p) < 0
	case from.Kind != to.Kind:
		// Bytes go into string, but for those that are no UTF-8.
		return from.Kind == api.AvroBytes || !avroresolve.Goes(from.Kind, to.Kind)
	}
	return !c.isAlike(p) || from.Size != to.Size || c.lacksField(p) || !to.Has && c.lacking(p) >= 0
}

// isAlike tells whether both nodes have one kind, and names with one last part, if any.
func (c *checker) isAlike(p api.AvroStep) bool {
	return c.writer.nodes[p.Writer].Kind == c.reader.nodes[p.Reader].Kind && c.writer.last[p.Writer] == c.reader.last[p.Reader]
}

// lacksField tells whether the writer's has not a field of the reader's, which has no default.
func (c *checker) lacksField(p api.AvroStep) bool {
	return slices.ContainsFunc(c.reader.nodes[p.Reader].Fields, func(f api.AvroField) bool {
		_, has := c.writer.places[p.Writer][f.Name]
		return !has && !f.Has
	})
}

// lacking tells the place of the writer's first symbol that the reader's has not; below 0, there is none.
func (c *checker) lacking(p api.AvroStep) int {
	return slices.IndexFunc(c.writer.nodes[p.Writer].Symbols, func(symbol string) bool {
		_, has := c.reader.places[p.Reader][symbol]
		return !has
	})
}

// branch tells the place of the reader's branch for the writer's node; below 0, there is none. Layer 12's
// Branch tells it too, but would check both schemas anew for each pair.
func (c *checker) branch(p api.AvroStep) int {
	from, kids := c.writer.nodes[p.Writer], c.reader.nodes[p.Reader].Kids
	isAlike := func(kid int) bool { return c.isAlike(api.AvroStep{Writer: p.Writer, Reader: kid}) }
	for _, is := range []func(kid int) bool{
		func(kid int) bool { return isAlike(kid) && c.reader.nodes[kid].Name == from.Name },
		isAlike,
		func(kid int) bool { return avroresolve.Goes(from.Kind, c.reader.nodes[kid].Kind) },
	} {
		if at := slices.IndexFunc(kids, is); at >= 0 {
			return at
		}
	}
	return -1
}
