package avrocompat

import (
	"iter"

	"lexicon/api"
)

// step is a way on from a pair: to the pair to which turning comes, by a place in the writer's value.
type step struct {
	to api.AvroStep
	at int // of a field, of a branch
}

// nowhere is the place of a step that goes no further into the writer's value.
const nowhere = -1

// comes tells to which pairs values come from one: to itself alone, where they are refused there.
func (c *checker) comes(p api.AvroStep) iter.Seq[step] {
	from, to := &c.writer.nodes[p.Writer], &c.reader.nodes[p.Reader]
	return func(yield func(step) bool) {
		switch {
		case c.isRefused(p):
			yield(step{p, nowhere})
		case from.Kind == api.AvroUnion:
			c.branches(p, yield)
		case to.Kind == api.AvroUnion:
			yield(step{api.AvroStep{Writer: p.Writer, Reader: to.Kids[c.branch(p)]}, nowhere})
		case from.Kind == api.AvroRecord:
			c.fields(p, yield)
		case len(from.Kids) > 0 && c.depths[from.Kids[0]] < never:
			yield(step{api.AvroStep{Writer: from.Kids[0], Reader: to.Kids[0]}, 0})
		}
	}
}

// branches tells to which pairs values come from one whose writer's node is a union.
func (c *checker) branches(p api.AvroStep, yield func(step) bool) {
	for at, kid := range c.writer.nodes[p.Writer].Kids {
		if c.depths[kid] < never && !yield(step{api.AvroStep{Writer: kid, Reader: p.Reader}, at}) {
			return
		}
	}
}

// fields tells to which pairs values come from one of two records. All that is beside such a pair is as in the
// least deep value: where that is refused in a field, turning comes to none behind it.
func (c *checker) fields(p api.AvroStep, yield func(step) bool) {
	for _, f := range c.reader.nodes[p.Reader].Fields {
		at, has := c.writer.places[p.Writer][f.Name]
		if !has {
			continue
		}
		next := api.AvroStep{Writer: c.writer.nodes[p.Writer].Fields[at].Type, Reader: f.Type}
		if !yield(step{next, at}) || !c.passes(next) {
			return
		}
	}
}

// passes tells whether the least deep value of the writer's node comes to no pair where values are refused.
func (c *checker) passes(p api.AvroStep) bool {
	if known, ok := c.least[p]; ok {
		return known.passes
	}
	passes := true
	for s := range c.comes(p) {
		if s.to == p || c.isLeast(p, s) && !c.passes(s.to) {
			passes = false
			break
		}
	}
	c.least[p] = answer{passes}
	return passes
}

// isLeast tells whether the least deep value of the writer's node goes by a step. That of a list, of a map, has
// no value in it, and is turned wherever it comes to a list, to a map.
func (c *checker) isLeast(p api.AvroStep, s step) bool {
	switch n := c.writer.nodes[p.Writer]; n.Kind {
	case api.AvroUnion:
		return s.at == shallowest(n, c.depths)
	case api.AvroList, api.AvroMap:
		return false
	}
	return true
}

// find finds the pairs that fail on a shortest way from both roots to where a value is refused, each with the step
// to the next one; the last one's is to itself. There are none, if there is no such way.
func (c *checker) find() {
	if c.depths[c.roots.Writer] == never {
		return
	}
	came := map[api.AvroStep]step{c.roots: {}} // from which pair a value comes to each, by which place
	todo := []api.AvroStep{c.roots}
pairs:
	for len(todo) > 0 {
		p := todo[0]
		todo = todo[1:]
		for s := range c.comes(p) {
			if s.to == p {
				c.fails[p] = s
				c.mark(p, came)
				break pairs
			}
			if _, met := came[s.to]; !met {
				came[s.to] = step{p, s.at}
				todo = append(todo, s.to)
			}
		}
	}
}

// mark tells that all pairs fail from which a value came to one that fails.
func (c *checker) mark(p api.AvroStep, came map[api.AvroStep]step) {
	for p != c.roots {
		from := came[p]
		c.fails[from.to] = step{p, from.at}
		p = from.to
	}
}
