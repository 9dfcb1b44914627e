package avro

import (
	"slices"

	"lexicon/api"
	"lexicon/jsontext"
)

// ask gives up, if a schema may not be.
func ask(s api.Avro) {
	l := names{}
	for at, n := range s.Nodes {
		askOwn(n)
		if isNamed(n.Kind) {
			l.add(n.Name, at)
		}
	}
	order := ordered(s.Nodes, s.Root)
	if len(order) != len(s.Nodes) || !slices.IsSorted(order) {
		panic(api.ErrAvro)
	}
	for _, n := range s.Nodes {
		askBranches(s.Nodes, n)
		askDefaults(s.Nodes, n)
	}
}

// askOwn asks what a node is by itself: that it has what its kind names, and nothing else.
func askOwn(n api.AvroNode) {
	rest, right := n, isPlain(n.Kind)
	switch n.Kind {
	case api.AvroRecord:
		rest.Name, rest.Fields = "", nil
		right = areFields(n.Fields)
	case api.AvroEnum:
		rest.Name, rest.Symbols, rest.Has, rest.Default = "", nil, false, ""
		right = areSymbols(n.Symbols) && (n.Has && isSymbol(n, n.Default) || !n.Has && n.Default == "")
	case api.AvroFixed:
		rest.Name, rest.Size = "", 0
		right = isSize(int64(n.Size))
	case api.AvroList, api.AvroMap:
		rest.Kids = nil
		right = len(n.Kids) == 1
	case api.AvroUnion:
		rest.Kids = nil
		right = len(n.Kids) > 0
	}
	if !right || !sameNode(rest, api.AvroNode{Kind: n.Kind}) {
		panic(api.ErrAvro)
	}
}

// areFields tells whether a record may have these fields, whatever their types are.
func areFields(fields []api.AvroField) bool {
	l := parts{}
	for _, f := range fields {
		if jsontext.Check(f.Default) != api.OK || !f.Has && f.Default.Kind != api.JSONNull {
			return false
		}
		l.add(f.Name)
	}
	return len(fields) <= api.MaxTypes
}

// areSymbols tells whether an enum may have these symbols.
func areSymbols(symbols []string) bool {
	l := parts{}
	for _, s := range symbols {
		l.add(s)
	}
	return len(symbols) > 0 && len(symbols) <= api.MaxTypes
}

// askBranches asks what a node that is a union has, whether it may stand side by side.
func askBranches(nodes []api.AvroNode, n api.AvroNode) {
	if n.Kind != api.AvroUnion {
		return
	}
	b := branches{}
	for _, kid := range n.Kids {
		b.add(nodes[kid])
	}
}
