package avrocompat_test

import (
	"fmt"
	"runtime"
	"slices"
	"testing"

	"lexicon/api"
	"lexicon/avro"
	"lexicon/avrocompat"
	"lexicon/avroresolve"
)

// chain is a schema of nodes of these kinds in one another, and a last one.
func chain(last api.AvroNode, kinds ...api.AvroKind) api.Avro {
	var s api.Avro
	for i, kind := range kinds {
		n := api.AvroNode{Kind: kind, Kids: []int{i + 1}}
		if kind == api.AvroRecord {
			n = api.AvroNode{Kind: kind, Name: name(i), Fields: []api.AvroField{{Name: "a", Type: i + 1}}}
		}
		s.Nodes = append(s.Nodes, n)
	}
	s.Nodes = append(s.Nodes, last)
	return s
}

// long complains if a schema is read, or if a witness is told that is too great.
func long(t *testing.T, w, r api.Avro) {
	t.Helper()
	if ok, e := avrocompat.Reads(r, w); ok || e != api.OK {
		t.Errorf("P13.1: Reads: %s, of %s: %t, %d", show(r), show(w), ok, e)
	}
	if d, e := avrocompat.Witness(r, w); e != api.ErrLong || !same(d, api.Datum{}) {
		t.Errorf("P13.2: Witness: %s, of %s: %s, %d", show(r), show(w), show(d), e)
	}
}

// found complains if no witness is told, or none so deep, of so many values.
func found(t *testing.T, w, r api.Avro, deep, many int) {
	t.Helper()
	d, e := avrocompat.Witness(r, w)
	witnesses(t, w, r, d, e)
	if nested(d) != deep || total(d) != many {
		t.Errorf("P13.2: Witness: %s, of %s: %d values, %d in one another, not %d, %d", show(r), show(w), total(d), nested(d), many, deep)
	}
}

// TestDepth: P13.2: witnesses of MaxDepth values in one another, and one more: along the pairs, by nodes of each kind.
func TestDepth(t *testing.T) {
	whole, text := api.AvroNode{Kind: api.AvroInt}, api.AvroNode{Kind: api.AvroText}
	for _, kind := range []api.AvroKind{api.AvroList, api.AvroMap, api.AvroRecord, api.AvroUnion} {
		for _, n := range []int{1, 10, 62, 63, 64, 65, 100, 254, 255} {
			l := slices.Repeat([]api.AvroKind{kind}, n)
			if kind == api.AvroUnion {
				for i := range l {
					l[i] = []api.AvroKind{api.AvroUnion, api.AvroList}[i%2]
				}
			}
			w, r := right(t, chain(whole, l...)), right(t, chain(text, l...))
			p := refused(t, w, r)
			pairs := n + 1
			if kind == api.AvroUnion {
				pairs += n / 2 // of both unions, of a branch and a union, of both branches; the last branch has none
			}
			if len(p) != pairs {
				t.Errorf("P13.2: Path: %d pairs, not %d", len(p), pairs)
			}
			if n < api.MaxDepth {
				found(t, w, r, n+1, n+1)
			} else {
				long(t, w, r)
			}
		}
	}
	// The reader's unions are in no value of the writer's.
	lists, unions := slices.Repeat([]api.AvroKind{api.AvroList}, 63), []api.AvroKind{}
	for range 63 {
		unions = append(unions, api.AvroUnion, api.AvroList)
	}
	found(t, chain(whole, lists...), chain(text, unions...), 64, 64)
	long(t, chain(whole, append(lists, api.AvroList)...), chain(text, append(unions, api.AvroUnion, api.AvroList)...))
	long(t, chain(whole, unions...), chain(text, lists...))
	found(t, chain(whole, unions[:63]...), chain(text, lists[:31]...), 64, 64)
	// What is refused ahead of that depth is no deeper than that.
	found(t, chain(whole, slices.Repeat([]api.AvroKind{api.AvroList}, 200)...), chain(text, append(lists[:50:50], api.AvroMap)...), 51, 51)
}

// TestDepthBeside: P13.2: what is beside the pairs counts, and is no deeper than it has to be.
func TestDepthBeside(t *testing.T) {
	// A record whose field a is so deep, by records, or by unions of records too.
	deep := func(n int, way []api.AvroKind) api.Avro {
		s := chain(api.AvroNode{Kind: api.AvroNull}, append([]api.AvroKind{api.AvroRecord}, way[:n]...)...)
		s.Nodes[0].Fields = append(s.Nodes[0].Fields, api.AvroField{Name: "b", Type: len(s.Nodes)})
		s.Nodes = append(s.Nodes, api.AvroNode{Kind: api.AvroInt})
		return right(t, s)
	}
	records, unions, lists := []api.AvroKind{}, []api.AvroKind{}, []api.AvroKind{}
	for range 32 {
		records = append(records, api.AvroRecord, api.AvroRecord)
		unions = append(unions, api.AvroUnion, api.AvroRecord)
		lists = append(lists, api.AvroList, api.AvroMap)
	}
	r := made(record("R", field("b", `"string"`)))
	for _, way := range [][]api.AvroKind{records, unions} {
		for _, n := range []int{0, 1, 2, 30, 61} {
			found(t, deep(n, way), r, n+2, n+3)
		}
		found(t, deep(62, way), r, 64, 65)
		long(t, deep(63, way), r)
		long(t, deep(64, way), r)
		reads(t, deep(64, way), made(record("R", field("b", `"long"`))))
	}
	found(t, deep(64, lists), r, 2, 3)
	// The least deep branch of a union, wherever it stands; lists and maps have no values.
	u := `"null"`
	for i := range 5 {
		u = record(fmt.Sprint("S", i), field("x", u))
	}
	for _, l := range [][]string{{u, `"null"`}, {`"null"`, u}, {record("Q", field("x", record("P"))), `"null"`, u}, {u, array(`"int"`)}} {
		found(t, made(record("R", field("u", union(l...)), field("b", `"int"`))), r, 3, 4)
	}
	found(t, made(record("R", field("u", union(u, record("Q", field("x", record("P"))))), field("b", `"int"`))), r, 4, 5)
	// The first of two that are as deep.
	least := func(d api.Datum, l ...string) {
		t.Helper()
		refusedBy(t, made(record("R", field("u", union(l...)), field("b", `"int"`))), r, path(0, 0, len(l)+2, 1), fields(d, short(0)))
	}
	least(branch(0, fields()), record("Q"), `"null"`)
	least(branch(0, null()), `"null"`, record("Q"))
	// A node stands within itself no more often than it has to.
	found(t, made(record("R", field("n", union(`"R"`, record("Q"))), field("b", `"int"`))), r, 3, 4)
	found(t, made(record("R", field("n", union(`"R"`, `"int"`)), field("b", `"int"`), field("m", dict(`"R"`)))), r, 3, 5)
}

// TestDeepWithin: P13.1, P13.2: what is refused within, deeper than any witness.
func TestDeepWithin(t *testing.T) {
	records := slices.Repeat([]api.AvroKind{api.AvroRecord}, 254)
	for _, kind := range []api.AvroKind{api.AvroList, api.AvroMap, api.AvroUnion, api.AvroRecord} {
		for _, n := range []int{62, 63, 64, 65, 100, 254} {
			kinds := append([]api.AvroKind{kind}, records[:n]...)
			w, r := right(t, chain(api.AvroNode{Kind: api.AvroInt}, kinds...)), right(t, chain(api.AvroNode{Kind: api.AvroText}, kinds...))
			if n == 62 {
				found(t, w, r, 64, 64)
			} else {
				long(t, w, r)
			}
			if l := refused(t, w, r); len(l) < n+2 {
				t.Errorf("P13.2: Path: %d pairs", len(l))
			}
			reads(t, w, right(t, chain(api.AvroNode{Kind: api.AvroLong}, kinds...)))
		}
	}
}

// ones are so many fields of the fixed one F, with a first letter.
func ones(letter string, n int) []string {
	var l []string
	for i := range n {
		l = append(l, field(fmt.Sprint(letter, i), `"F"`))
	}
	return l
}

// square is a record W of a fixed one, F, and of many records S of so many of it each: 2 values, and those of the records.
func square(many, each int) string {
	l := []string{field("f", fixed("F", 0)), field("s0", record("S", ones("f", each)...))}
	for i := range many - 1 {
		l = append(l, field(fmt.Sprint("s", i+1), `"S"`))
	}
	return record("W", l...)
}

// row is a record V of records of F, where that is defined, of so many values in all.
func row(many int) string {
	var l []string
	for left := many - 1; left > 0; left -= 200 {
		l = append(l, field(fmt.Sprint("v", left), record(fmt.Sprint("V", left), ones("f", min(left, 200)-1)...)))
	}
	return record("V", l...)
}

// TestNumber: P13.2: witnesses of MaxData values, and of one more: along the pairs, and beside them.
func TestNumber(t *testing.T) {
	w := square(254, 255)
	some := 2 + 254*256
	less := api.MaxData - some
	for _, x := range []struct {
		w, r string
		many int
	}{
		{w, `"int"`, some},
		{square(3, 4), `"int"`, 2 + 3*5},
		{w, record("W", field("s253", record("S", field("x", `"int"`)))), some},
		{union(`"null"`, w), union(`"null"`), some + 1},
		{array(w), array(`"int"`), some + 1},
		{dict(w), dict(`"int"`), some + 1},
		{array(dict(union(w))), array(dict(`"int"`)), some + 3},
		{record("R", field("w", w), field("b", row(less-1))), `"int"`, api.MaxData},
		{record("R", field("w", w), field("b", row(less-1))), record("R", field("w", record("W", field("s7", record("S", field("f254", fixed("F", 1))))))), api.MaxData},
		{array(record("R", field("w", w), field("b", row(less-2)))), array(`"int"`), api.MaxData},
		{union(record("R", field("w", w), field("b", row(less-2))), `"string"`), union(record("R", field("x", `"int"`)), `"string"`), api.MaxData},
	} {
		d, e := avrocompat.Witness(made(x.r), made(x.w))
		witnesses(t, made(x.w), made(x.r), d, e)
		if n := total(d); n != x.many {
			t.Errorf("P13.2: Witness: %s, of %s: %d values, not %d", show(x.r), show(x.w), n, x.many)
		}
	}
	for _, x := range [][2]string{
		{record("R", field("w", w), field("b", row(less))), `"int"`},
		{record("R", field("w", w), field("b", row(less))), record("R", field("w", record("W", field("s7", record("S", field("f254", fixed("F", 1)))))))},
		{array(record("R", field("w", w), field("b", row(less-1)))), array(`"int"`)},
		{dict(record("R", field("w", w), field("b", row(less-1)))), dict(`"int"`)},
		{union(record("R", field("w", w), field("b", row(less-1))), `"string"`), union(record("R", field("x", `"int"`)), `"string"`)},
		{record("R", field("w", w), field("v", `"W"`)), `"int"`},
	} {
		long(t, made(x[0]), made(x[1]))
	}
}

// doubling is a schema of records that each hold the next one twice, the last one fixed ones.
func doubling(many, size int) api.Avro {
	var s api.Avro
	for i := range many {
		s.Nodes = append(s.Nodes, api.AvroNode{Kind: api.AvroRecord, Name: name(i), Fields: []api.AvroField{{Name: "a", Type: i + 1}, {Name: "b", Type: i + 1}}})
	}
	s.Nodes = append(s.Nodes, api.AvroNode{Kind: api.AvroFixed, Name: "n.F", Size: size})
	return s
}

// TestDoubling: P13.1, P13.2: values of far too many values are not made, and none of their bytes; what is read of them is told soon.
func TestDoubling(t *testing.T) {
	for _, many := range []int{16, 20, 50, 255} {
		w := right(t, doubling(many, 1<<16))
		var from, to runtime.MemStats
		runtime.ReadMemStats(&from)
		reads(t, w, w)
		long(t, w, made(`"int"`))
		long(t, w, right(t, doubling(many, 1)))
		long(t, right(t, doubling(many, 1)), w)
		runtime.ReadMemStats(&to)
		if n := to.TotalAlloc - from.TotalAlloc; n > 1<<28 {
			t.Errorf("P13.2: Witness: by %d bytes", n)
		}
	}
	found(t, right(t, doubling(14, 0)), made(`"int"`), 15, 1<<15-1)
	found(t, right(t, doubling(15, 3)), right(t, doubling(15, 2)), 16, 1<<16-1)
	refused(t, right(t, doubling(10, 0)), right(t, doubling(9, 0)))
	// Beside a pair.
	w := doubling(200, 1<<16)
	w.Nodes[0].Fields = append(w.Nodes[0].Fields, api.AvroField{Name: "c", Type: len(w.Nodes)})
	w.Nodes = append(w.Nodes, api.AvroNode{Kind: api.AvroInt})
	long(t, right(t, w), made(record("R", field("c", `"string"`))))
	reads(t, w, made(record("R", field("c", `"long"`))))
	// In a branch that need not be taken, and in one that has to be.
	of, name := fixed("F", 1<<16), "F"
	for i := range 18 {
		last := name
		name = fmt.Sprint("D", i)
		of = record(name, field("a", of), field("b", `"`+last+`"`))
	}
	for _, u := range []string{union(of, `"null"`), union(`"null"`, of)} {
		w := made(record("R", field("u", u), field("c", `"int"`)))
		found(t, w, made(record("R", field("c", `"string"`))), 3, 4)
		long(t, w, made(record("R", field("u", `"null"`), field("c", `"int"`))))
	}
	long(t, made(record("R", field("u", union(of)), field("c", `"int"`))), made(record("R", field("c", `"string"`))))
}

// TestReadBeyondBounds: P13.1, P13.3: what is read is turned, but for bounds: a default, or unions, that make it too great, do not count.
func TestReadBeyondBounds(t *testing.T) {
	r := made(record("R", field("a", `"int"`), field("b", array(`"int"`))))
	r.Nodes[0].Fields[1].Has, r.Nodes[0].Fields[1].Default = true, api.JSON{Kind: api.JSONList, List: slices.Repeat([]api.JSON{{Kind: api.JSONNumber}}, api.MaxData)}
	w := made(record("R", field("a", `"int"`)))
	reads(t, w, right(t, r))
	if _, e := avroresolve.Turn(w, r, fields(short(0))); e != api.ErrResolve {
		t.Errorf("the tests' value: %d", e)
	}
	lists := slices.Repeat([]api.AvroKind{api.AvroList}, 63)
	var unions []api.AvroKind
	for range lists {
		unions = append(unions, api.AvroUnion, api.AvroList)
	}
	w, r = chain(api.AvroNode{Kind: api.AvroInt}, lists...), chain(api.AvroNode{Kind: api.AvroLong}, unions...)
	reads(t, w, r)
	reads(t, r, r)
	if avro.Check(r) != api.OK {
		t.Error("the tests' schema")
	}
	// It is refused, however deep that is.
	r.Nodes[len(r.Nodes)-1].Kind = api.AvroText
	found(t, w, r, 64, 64)
}
