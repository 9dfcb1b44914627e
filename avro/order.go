package avro

import (
	"slices"

	"lexicon/api"
)

// ordered tells the numbers of nodes in their order, from a root on.
func ordered(nodes []api.AvroNode, root int) []int {
	w := &walk{nodes: nodes, met: map[int]struct{}{}}
	w.meet(root, "")
	return w.order
}

// walk goes over nodes in their order.
type walk struct {
	nodes []api.AvroNode
	met   map[int]struct{}
	order []int
}

// meet goes to a node that stands in a space.
func (w *walk) meet(at int, space string) {
	if at < 0 || at >= len(w.nodes) {
		panic(api.ErrAvro)
	}
	n := w.nodes[at]
	if _, ok := w.met[at]; ok {
		w.meetAgain(n, space)
		return
	}
	w.met[at] = struct{}{}
	w.order = append(w.order, at)
	if len(w.order) > api.MaxTypes {
		panic(api.ErrAvro)
	}
	for _, f := range n.Fields {
		w.meet(f.Type, spaceOf(n.Name))
	}
	for _, kid := range n.Kids {
		w.meet(kid, space)
	}
}

// meetAgain asks whether a node may be met again in a space.
func (w *walk) meetAgain(n api.AvroNode, space string) {
	// A name without a point would be told as one of the space.
	if !isNamed(n.Kind) || space != "" && !hasPoint(n.Name) {
		panic(api.ErrAvro)
	}
}

// numbered tells the schema whose nodes are those of that order.
func numbered(nodes []api.AvroNode, order []int) api.Avro {
	numbers := map[int]int{}
	for n, at := range order {
		numbers[at] = n
	}
	var s api.Avro
	for _, at := range order {
		n := nodes[at]
		n.Fields, n.Kids = slices.Clone(n.Fields), slices.Clone(n.Kids)
		for i, f := range n.Fields {
			n.Fields[i].Type = numbers[f.Type]
		}
		for i, kid := range n.Kids {
			n.Kids[i] = numbers[kid]
		}
		s.Nodes = append(s.Nodes, n)
	}
	return s
}
