package avrocompat

import (
	"slices"

	"lexicon/api"
)

// never is the depth of a node that has no value. Each other depth is less: no value of a node is within
// the least deep one of that node.
const never = api.MaxTypes + 1

// depths tells of each node how many values are in one another in its least deep value.
func depths(nodes []api.AvroNode) []int {
	l := slices.Repeat([]int{never}, len(nodes))
	for {
		was := slices.Clone(l)
		for i, n := range nodes {
			l[i] = min(never, 1+within(n, was))
		}
		if slices.Equal(l, was) {
			return l
		}
	}
}

// within tells the depth of what is in a node's least deep value.
func within(n api.AvroNode, depths []int) int {
	switch n.Kind {
	case api.AvroRecord:
		deepest := 0
		for _, f := range n.Fields {
			deepest = max(deepest, depths[f.Type])
		}
		return deepest
	case api.AvroUnion:
		return depths[n.Kids[shallowest(n, depths)]]
	}
	return 0
}

// shallowest tells the place of the first of a union's branches whose depth is the least.
func shallowest(union api.AvroNode, depths []int) int {
	best := 0
	for at, kid := range union.Kids {
		if depths[kid] < depths[union.Kids[best]] {
			best = at
		}
	}
	return best
}
