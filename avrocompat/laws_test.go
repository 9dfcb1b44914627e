package avrocompat_test

import (
	"slices"
	"testing"

	"lexicon/api"
	"lexicon/avro"
	"lexicon/avrocompat"
	"lexicon/avroresolve"
)

// right complains if a tests' schema may not be.
func right(t *testing.T, s api.Avro) api.Avro {
	t.Helper()
	if e := avro.Check(s); e != api.OK {
		t.Fatalf("the tests' schema: %d, %s", e, show(s))
	}
	return s
}

// agrees complains if what is told of two schemas is not what the chapter's words ask, and tells whether the reader reads the writer.
func agrees(t *testing.T, w, r api.Avro) bool {
	t.Helper()
	ok := modelOf(w, r).reads()
	if ok {
		reads(t, w, r)
	} else {
		refused(t, w, r)
	}
	return ok
}

// TestLaws: P13.1 to P13.3: in schemas of no plain order, what is read, and where what is not is refused, is as the chapter's words ask; what is read is turned; a schema reads itself.
func TestLaws(t *testing.T) {
	read, not, turned, none := map[api.AvroKind]int{}, map[api.AvroKind]int{}, 0, 0
	for seed := range uint64(6_000) {
		g := (&maker{next: numbers(seed)}).fresh()
		writer := g.whole(2 + int(seed%3))
		w := right(t, laid(writer))
		values, e := avrocompat.Values(w)
		if e != api.OK || !slices.Equal(values, valuesOf(w)) {
			t.Errorf("P13.1: Values of %s: %v, %d", show(w), values, e)
		}
		if !values[0] {
			none++
		}
		reads(t, w, w)
		for i := range 5 {
			reader := g.fresh().whole(2)
			if i < 4 {
				reader = g.fresh().later(writer, []int{1000, 100, 20, 5}[i])
			}
			r := right(t, laid(reader))
			ok := agrees(t, w, r)
			agrees(t, r, w)
			if !ok {
				not[w.Nodes[0].Kind]++
				continue
			}
			read[w.Nodes[0].Kind]++
			for range 3 {
				if d, is := g.datum(writer, 8); is {
					turned++
					if _, e := avroresolve.Turn(w, r, d); e != api.OK {
						t.Errorf("P13.3: %s reads %s, but for %s: %d", show(r), show(w), show(d), e)
					}
				}
			}
		}
	}
	for kind := api.AvroNull; kind <= api.AvroUnion; kind++ {
		if read[kind] < 200 || not[kind] < 200 || turned < 10000 || none < 200 {
			t.Errorf("the tests' schemas: %v, %v, %d, %d", read, not, turned, none)
			break
		}
	}
}

// TestRefusedValues: P13.1: a schema of which a value is refused, whichever, is not read.
func TestRefusedValues(t *testing.T) {
	refusals := 0
	for seed := range uint64(6_000) {
		g := (&maker{next: numbers(seed + 1<<20)}).fresh()
		writer := g.whole(2 + int(seed%3))
		w, r := right(t, laid(writer)), right(t, laid(g.fresh().later(writer, 20)))
		ok, _ := avrocompat.Reads(r, w)
		for range 8 {
			d, is := g.datum(writer, 8)
			if !is {
				continue
			}
			if _, e := avroresolve.Turn(w, r, d); e != api.OK {
				refusals++
				if ok {
					t.Errorf("P13.1: %s reads %s, but not %s", show(r), show(w), show(d))
				}
			}
		}
	}
	if refusals < 1000 {
		t.Errorf("the tests' values: %d", refusals)
	}
}

// TestSpacesAndOrders: P13.3: what is read does not hang on names' spaces, if no two names of one schema have one last part, or on the order of fields.
func TestSpacesAndOrders(t *testing.T) {
	read, not, alone := 0, 0, 0
	for seed := range uint64(4_000) {
		first := &maker{next: numbers(seed), spaces: []string{"a.", "a.b.", "c."}, names: 4}
		writer := first.whole(2 + int(seed%3))
		second := &maker{next: first.next, spaces: first.spaces, names: 4}
		reader := second.later(writer, 30)
		moved := func(name string) string { return first.pick("x.", "a.", "a.b.", "y.z.") + lastPart(name) }
		ways := []func(name string) string{func(name string) string { return name }}
		if isAlone(first.named) && isAlone(second.named) {
			ways = append(ways, lastPart, moved)
			alone++
		}
		want, _ := avrocompat.Reads(right(t, laid(reader)), right(t, laid(writer)))
		for _, names := range ways {
			w, r := right(t, laid(first.anew(writer, names))), right(t, laid(second.anew(reader, names)))
			if got, e := avrocompat.Reads(r, w); got != want || e != api.OK {
				t.Errorf("P13.3: %s, %s: %t, %d, not %t", show(w), show(r), got, e, want)
			}
			agrees(t, w, r)
			if want {
				read++
			} else {
				not++
			}
		}
	}
	if read < 1000 || not < 1000 || alone < 1000 {
		t.Errorf("the tests' schemas: %d, %d, %d", read, not, alone)
	}
}

// isAlone tells whether no two names have one last part.
func isAlone(l []*tree) bool {
	met := map[string]bool{}
	for _, t := range l {
		if met[lastPart(t.name)] {
			return false
		}
		met[lastPart(t.name)] = true
	}
	return true
}
