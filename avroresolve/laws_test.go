package avroresolve_test

import (
	"testing"

	"lexicon/api"
	"lexicon/avro"
	"lexicon/avrocodec"
	"lexicon/avroresolve"
)

// agrees complains if what Turn and Read tell of a value that fits the writer's root is not what the chapter's words ask, and tells whether it is turned.
func agrees(t *testing.T, w, r api.Avro, d api.Datum) bool {
	t.Helper()
	want, ok := turnedBy(w, r, d)
	if ok {
		turns(t, w, r, d, want)
	} else {
		refuses(t, w, r, d)
	}
	return ok
}

// right complains if a tests' schema may not be.
func right(t *testing.T, s api.Avro) api.Avro {
	t.Helper()
	if e := avro.Check(s); e != api.OK {
		t.Fatalf("the tests' schema: %d, %s", e, show(s))
	}
	return s
}

// TestLaws: P12.1, P12.3: in schemas of no plain order, values are turned, or refused, as the chapter's words ask; what is turned fits; a schema reads what it wrote as it was.
func TestLaws(t *testing.T) {
	turned, refused := map[api.AvroKind]int{}, map[api.AvroKind]int{}
	for seed := range uint64(6_000) {
		g := (&maker{next: numbers(seed)}).fresh()
		writer := g.whole(2 + int(seed%3))
		w := right(t, laid(writer))
		var readers []api.Avro
		for i := range 4 {
			readers = append(readers, right(t, laid(g.fresh().later(writer, []int{1000, 1000, 20, 5}[i]))))
		}
		readers = append(readers, right(t, laid(g.fresh().whole(2))))
		for range 3 {
			d, ok := g.datum(writer, 8)
			if !ok {
				continue
			}
			turns(t, w, w, d, d)
			for _, r := range readers {
				if agrees(t, w, r, d) {
					turned[w.Nodes[0].Kind]++
				} else {
					refused[w.Nodes[0].Kind]++
				}
			}
			if seed%4 == 0 {
				keepsMemory(t, w, readers[0], d)
			}
		}
	}
	for kind := api.AvroNull; kind <= api.AvroUnion; kind++ {
		if turned[kind] < 200 || refused[kind] < 200 {
			t.Errorf("the tests' values: %v, %v", turned, refused)
			break
		}
	}
}

// TestOrders: P12.3: turning does not hang on the order of the writer's fields, or of its unions' branches.
func TestOrders(t *testing.T) {
	turned, refused := 0, 0
	for seed := range uint64(3_000) {
		g := (&maker{next: numbers(seed)}).fresh()
		writer := g.kind(api.AvroKind([]int{8, 13}[seed%2]), 3)
		s := &shuffler{g, map[*tree]*tree{}, map[*tree][]int{}}
		other := s.tree(writer)
		w, x := right(t, laid(writer)), right(t, laid(other))
		r := right(t, laid(g.fresh().later(writer, 30)))
		for range 3 {
			d, ok := g.datum(writer, 8)
			if !ok {
				continue
			}
			c := s.datum(writer, d)
			if e := avrocodec.Check(x, 0, c); e != api.OK {
				t.Fatalf("the tests' value: %d", e)
			}
			one, e := avroresolve.Turn(w, r, d)
			two, f := avroresolve.Turn(x, r, c)
			if e != f || !same(one, two) {
				t.Errorf("P12.3: Turn of %s: %s, %d; of %s: %s, %d", show(d), show(one), e, show(c), show(two), f)
			}
			if e == api.OK {
				turned++
			} else {
				refused++
			}
		}
	}
	if turned < 2000 || refused < 500 {
		t.Errorf("the tests' values: %d, %d", turned, refused)
	}
}

// TestBranchLaws: P12.2: Branch of each node and each union of schemas of no plain order.
func TestBranchLaws(t *testing.T) {
	found, none := 0, 0
	for seed := range uint64(6_000) {
		g := (&maker{next: numbers(seed)}).fresh()
		writer := g.whole(3)
		w := right(t, laid(writer))
		r := right(t, laid(g.fresh().later(writer, 20)))
		for union, n := range r.Nodes {
			for node := range w.Nodes {
				if n.Kind != api.AvroUnion {
					notBranch(t, w, r, node, union, api.ErrArg)
					continue
				}
				at, ok := model{w, r}.branchFor(node, union)
				if ok {
					branches(t, w, r, node, union, at)
					found++
				} else {
					branches(t, w, r, node, union, -1)
					none++
				}
			}
		}
	}
	if found < 3000 || none < 3000 {
		t.Errorf("the tests' unions: %d, %d", found, none)
	}
}

// TestDefaultLaws: P12.2: Default of each node of schemas of no plain order: what fits is told as a value that fits, by the chapter's words.
func TestDefaultLaws(t *testing.T) {
	told := map[api.AvroKind]int{}
	for seed := range uint64(6_000) {
		g := (&maker{next: numbers(seed)}).fresh()
		s := right(t, laid(g.whole(4)))
		var values []api.JSON
		for _, n := range s.Nodes {
			for _, f := range n.Fields {
				if f.Has {
					values = append(values, f.Default)
				}
			}
		}
		for node, n := range s.Nodes {
			for _, v := range values {
				if !avro.Fits(s, node, v) {
					denies(t, s, node, v, api.ErrDefault)
					continue
				}
				want, ok := defaultOf(s, node, v)
				if !ok {
					t.Fatalf("the tests' default: %s", show(v))
				}
				tells(t, s, node, v, want)
				keepsDefault(t, s, node, v)
				told[n.Kind]++
			}
		}
	}
	for kind := api.AvroNull; kind <= api.AvroUnion; kind++ {
		if told[kind] < 100 {
			t.Errorf("the tests' defaults: %v", told)
			break
		}
	}
}
