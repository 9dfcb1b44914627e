package avrocodec_test

import (
	"fmt"
	"math"
	"slices"
	"strings"
	"testing"

	"lexicon/api"
	"lexicon/avrocodec"
)

// everyKind is a record of one field of each kind, in the kinds' order; that of a record is a record without fields.
func everyKind() string {
	return record("R", `"null"`, `"boolean"`, `"int"`, `"long"`, `"float"`, `"double"`, `"bytes"`, `"string"`, record("S"), enum("E", "A", "B", "C"), fixed("F", 2), array(`"null"`), dict(`"null"`), union(`"null"`))
}

// ofKind is the node of a kind in that schema.
func ofKind(s api.Avro, kind api.AvroKind) int { return s.Nodes[0].Fields[kind].Type }

// eachKind are values of each kind, by kinds, the first ones such as fit that schema's node.
func eachKind() [][]api.Datum {
	return [][]api.Datum{
		{null()},
		{boolean(true), boolean(false)},
		{short(5), short(0)},
		{long(5), long(0)},
		{float(5), float(0)},
		{double(5), double(0)},
		{binary("ab"), binary("")},
		{text("ab"), text("")},
		{fields()},
		{symbol(1), symbol(0)},
		{fix("ab")},
		{list(null()), list()},
		{dicted("a", null()), dicted()},
		{branch(0, null())},
	}
}

// within are values that fit, each with one that is tried as a part of it, and the schemas of these.
func within(of string, d api.Datum) map[string]api.Datum {
	return map[string]api.Datum{
		of:                                  d,
		array(of):                           list(d),
		dict(of):                            dicted("k", d),
		record("Z", `"null"`, of, `"null"`): fields(null(), d, null()),
		union(`{"type":"fixed","name":"Z","size":7}`, of):    branch(1, d),
		array(record("Z", dict(union(`"null"`, array(of))))): list(fields(dicted()), fields(dicted("a", branch(0, null()), "b", branch(1, list(d)))), fields(dicted())),
	}
}

// TestEachKind: P11.1: a value of a kind fits nodes of that kind alone; so do zero values of a kind.
func TestEachKind(t *testing.T) {
	s := made(everyKind())
	for kind, l := range eachKind() {
		for node := range eachKind() {
			at := ofKind(s, api.AvroKind(node))
			for _, d := range l {
				if kind == node {
					codes(t, s, at, d, bytesOf(s, at, d))
				} else {
					refuses(t, s, at, d)
				}
			}
			// What stands in a value of another kind may be just what the node is of.
			if d := eachKind()[node][0]; kind != node {
				d.Kind = api.AvroKind(kind)
				refuses(t, s, at, d)
			}
		}
	}
	for at := range s.Nodes {
		for _, kind := range []api.AvroKind{-1, 14, 15, 1 << 32, math.MaxInt, math.MinInt} {
			refuses(t, s, at, api.Datum{Kind: kind})
		}
	}
}

// TestRest: P11.1: what a value's kind does not use is zero, each field of it; empty is zero.
func TestRest(t *testing.T) {
	s := made(everyKind())
	for kind, l := range eachKind() {
		at := ofKind(s, api.AvroKind(kind))
		used := strings.Fields(uses(api.AvroKind(kind)))
		for _, d := range l {
			for field, edits := range map[string][]func(d *api.Datum){
				"Bool":  {func(d *api.Datum) { d.Bool = true }},
				"Int":   {func(d *api.Datum) { d.Int = 1 }, func(d *api.Datum) { d.Int = -1 }, func(d *api.Datum) { d.Int = 1 << 32 }, func(d *api.Datum) { d.Int = math.MinInt64 }},
				"Bits":  {func(d *api.Datum) { d.Bits = 1 }, func(d *api.Datum) { d.Bits = 1 << 32 }, func(d *api.Datum) { d.Bits = 1 << 63 }},
				"Bytes": {func(d *api.Datum) { d.Bytes = []byte{0} }, func(d *api.Datum) { d.Bytes = []byte("ab") }},
				"Keys":  {func(d *api.Datum) { d.Keys = []string{""} }, func(d *api.Datum) { d.Keys = []string{"a", "b"} }},
				"List":  {func(d *api.Datum) { d.List = []api.Datum{{}} }, func(d *api.Datum) { d.List = []api.Datum{{}, {Kind: 20}} }},
			} {
				if slices.Contains(used, field) {
					continue
				}
				for _, edit := range edits {
					with := d
					edit(&with)
					refuses(t, s, at, with)
				}
			}
			with := d
			if len(with.Bytes) == 0 {
				with.Bytes = []byte{}
			}
			if len(with.Keys) == 0 {
				with.Keys = []string{}
			}
			if len(with.List) == 0 {
				with.List = []api.Datum{}
			}
			codes(t, s, at, with, bytesOf(s, at, with))
		}
	}
}

// TestWithin: P11.1: what is in a value fits, each kind of it, wherever it stands.
func TestWithin(t *testing.T) {
	of := []string{`"null"`, `"boolean"`, `"int"`, `"long"`, `"float"`, `"double"`, `"bytes"`, `"string"`, record("S"), enum("E", "A", "B", "C"), fixed("F", 2), array(`"null"`), dict(`"null"`), union(`"null"`)}
	for node, want := range of {
		for kind, l := range eachKind() {
			if api.AvroKind(node) == api.AvroUnion {
				continue // it may not stand in each of them
			}
			for _, d := range l {
				for text, whole := range within(want, d) {
					s := made(text)
					if node == kind {
						codes(t, s, 0, whole, bytesOf(s, 0, whole))
					} else {
						refuses(t, s, 0, whole)
					}
				}
				d.Bool = !d.Bool
				for text, whole := range within(want, d) {
					if kind != int(api.AvroBool) {
						refuses(t, made(text), 0, whole)
					}
				}
			}
		}
	}
	s := made(union(`"null"`, array(`"int"`)))
	refuses(t, s, 0, api.Datum{Kind: api.AvroUnion, Int: 1, Bool: true, List: []api.Datum{list()}})
	refuses(t, s, 0, branch(1, list(short(1), short(2), long(3))))
	refuses(t, s, 0, branch(1, list(long(3), short(1))))
	refuses(t, s, 0, branch(0, list()))
	refuses(t, s, 0, branch(1, null()))
	refuses(t, s, 0, branch(1, branch(1, list())))
}

// TestEdges: P11.1: numbers, places, bits and sizes at the ends of what fits, and beyond.
func TestEdges(t *testing.T) {
	for _, n := range []int64{math.MaxInt32, math.MinInt32, 0, -1} {
		s := made(`"int"`)
		codes(t, s, 0, short(n), bytesOf(s, 0, short(n)))
	}
	for _, n := range []int64{math.MaxInt32 + 1, math.MinInt32 - 1, math.MaxUint32, 1 << 32, -1 << 32, math.MaxInt64, math.MinInt64} {
		refuses(t, made(`"int"`), 0, short(n))
		refuses(t, made(array(`"int"`)), 0, list(short(1), short(n)))
	}
	for _, n := range []uint64{1 << 32, 1<<32 + 1, 1 << 63, math.MaxUint64} {
		refuses(t, made(`"float"`), 0, float(n))
	}
	for _, many := range []int{1, 2, 3, 63, 64, 65, 255, 256} {
		var symbols, names []string
		for i := range many {
			symbols, names = append(symbols, fmt.Sprint("S", i)), append(names, fixed(fmt.Sprint("F", i), 1))
		}
		e, u := made(enum("E", symbols...)), made(union(names[:min(many, 255)]...))
		for n := int64(-2); n < int64(many)+3; n++ {
			if 3 < n && n < int64(many)-3 && n != 63 && n != 64 {
				continue
			}
			if 0 <= n && n < int64(len(e.Nodes[0].Symbols)) {
				codes(t, e, 0, symbol(n), number(n))
			} else {
				refuses(t, e, 0, symbol(n))
				unread(t, e, 0, number(n))
			}
			if 0 <= n && n < int64(len(u.Nodes[0].Kids)) {
				codes(t, u, 0, branch(n, fix("x")), join(number(n), "x"))
			} else {
				refuses(t, u, 0, branch(n, fix("x")))
				unread(t, u, 0, join(number(n), "x"))
			}
		}
		for _, n := range []int64{1 << 32, -1 << 32, 1<<32 + 1, 1 << 62, math.MaxInt64, math.MinInt64} {
			refuses(t, e, 0, symbol(n))
			unread(t, e, 0, number(n))
			refuses(t, u, 0, branch(n, fix("x")))
			unread(t, u, 0, join(number(n), "x"))
		}
	}
}

// TestBranches: P11.1: a union's value is one value, which fits the branch that it names.
func TestBranches(t *testing.T) {
	s := made(union(`"null"`, `"int"`, fixed("F", 1), fixed("a.F", 2)))
	for at, l := range [][]api.Datum{{null()}, {short(1)}, {fix("a")}, {fix("ab")}} {
		for n := range int64(4) {
			if d := branch(n, l[0]); int64(at) == n {
				codes(t, s, 0, d, bytesOf(s, 0, d))
			} else {
				refuses(t, s, 0, d)
			}
		}
	}
	refuses(t, s, 0, api.Datum{Kind: api.AvroUnion})
	refuses(t, s, 0, api.Datum{Kind: api.AvroUnion, Int: 1})
	refuses(t, s, 0, api.Datum{Kind: api.AvroUnion, List: []api.Datum{}})
	refuses(t, s, 0, api.Datum{Kind: api.AvroUnion, List: []api.Datum{null(), null()}})
	refuses(t, s, 0, api.Datum{Kind: api.AvroUnion, Int: 1, List: []api.Datum{short(1), short(2)}})
	refuses(t, s, 0, api.Datum{Kind: api.AvroUnion, Int: 1, List: []api.Datum{null(), short(2)}})
}

// TestSizes: P11.1, P11.2: a fixed one has as many bytes as its Size says.
func TestSizes(t *testing.T) {
	for _, size := range []int{0, 1, 2, 3, 64, 128, 1 << 16} {
		s := made(fixed("F", size))
		whole := strings.Repeat("\xff", size)
		codes(t, s, 0, fix(whole), []byte(whole))
		refuses(t, s, 0, fix(whole+"\x00"))
		refuses(t, s, 0, fix(whole+whole+"a"))
		if size > 0 {
			refuses(t, s, 0, fix(whole[1:]))
			refuses(t, s, 0, fix(""))
			unread(t, s, 0, []byte(whole[1:]))
			unread(t, s, 0, nil)
		}
	}
}

// TestFields: P11.1: a record has a value for each field, in the fields' order.
func TestFields(t *testing.T) {
	l := []api.Datum{short(1), text("a"), null(), null()}
	for many, of := range []string{record("R"), record("R", `"int"`), record("R", `"int"`, `"string"`), record("R", `"int"`, `"string"`, `"null"`)} {
		s := made(of)
		for n := range len(l) + 1 {
			if d := fields(l[:n]...); n == many {
				codes(t, s, 0, d, bytesOf(s, 0, d))
			} else {
				refuses(t, s, 0, d)
			}
		}
	}
	s := made(record("R", `"int"`, `"string"`))
	refuses(t, s, 0, fields(text("a"), short(1)))
	refuses(t, s, 0, fields(short(1), null()))
	refuses(t, s, 0, fields(null(), text("a")))
}

// ill are bytes that are no UTF-8.
func ill() []string {
	return []string{"\xff", "\x80", "a\xc3", "\xc3", "\xe2\x82", "\xed\xa0\x80", "\xed\xbf\xbf", "\xf4\x90\x80\x80", "\xc0\x80", "\xc1\xbf", "\xe0\x80\x80", "\xf0\x80\x80\x80", "\xf8\x88\x80\x80\x80", "ab\xfe", "\u00e9\xe9", strings.Repeat("a", 100) + "\xff" + strings.Repeat("a", 100)}
}

// TestUTF: P11.1, P11.2: texts and Keys are UTF-8; bytes and fixed ones need not be.
func TestUTF(t *testing.T) {
	for _, b := range ill() {
		s := made(`"string"`)
		refuses(t, s, 0, text(b))
		unread(t, s, 0, join(number(int64(len(b))), b))
		s = made(dict(`"string"`))
		for _, d := range []api.Datum{dicted(b, text("")), dicted("a", text(b)), dicted("a", text(""), b, text("")), dicted(b, text(""), "a", text("")), dicted("a", text(""), "b", text(b), "c", text(""))} {
			refuses(t, s, 0, d)
			unread(t, s, 0, bytesOf(s, 0, d))
		}
		s = made(`"bytes"`)
		codes(t, s, 0, binary(b), join(number(int64(len(b))), b))
		s = made(fixed("F", len(b)))
		codes(t, s, 0, fix(b), []byte(b))
	}
	for _, b := range []string{"\ud7ff", "\ue000", "\U0010ffff", "\u0080", "\u07ff\u0800", "\uffff", "\ufffd", "\x7f\x00"} {
		s := made(dict(`"string"`))
		d := dicted(b, text(b), b+b, text(""))
		codes(t, s, 0, d, bytesOf(s, 0, d))
	}
}

// TestKeys: P11.1: a map has as many Keys as values, no two the same.
func TestKeys(t *testing.T) {
	s := made(dict(`"int"`))
	for _, l := range [][]any{
		{"a", short(1), "a", short(1)},
		{"a", short(1), "a", short(2)},
		{"", short(1), "b", short(2), "", short(3)},
		{"a", short(1), "b", short(2), "c", short(3), "b", short(4)},
	} {
		refuses(t, s, 0, dicted(l...))
		unread(t, s, 0, bytesOf(s, 0, dicted(l...)))
	}
	for _, l := range [][]any{
		{"a", short(1), "A", short(1)},
		{"a", short(1), "a ", short(1), "a\x00", short(1), "", short(1)},
		{"\u00e9", short(1), "e\u0301", short(1)},
		{"b", short(3), "a", short(2), "c", short(1)},
	} {
		codes(t, s, 0, dicted(l...), bytesOf(s, 0, dicted(l...)))
	}
	d := dicted("a", short(1), "b", short(2))
	for _, keys := range [][]string{nil, {}, {"a"}, {"a", "b", "c"}, {"a", "b", "a"}} {
		refuses(t, s, 0, api.Datum{Kind: api.AvroMap, Keys: keys, List: d.List})
	}
	refuses(t, s, 0, api.Datum{Kind: api.AvroMap, Keys: []string{"a"}})
	refuses(t, s, 0, api.Datum{Kind: api.AvroMap, Keys: []string{"a", "a"}})
	// One key may stand in several maps, and be there again behind them.
	s = made(dict(dict(`"null"`)))
	d = dicted("a", dicted("a", null(), "b", null()), "b", dicted("a", null()), "c", dicted())
	codes(t, s, 0, d, bytesOf(s, 0, d))
}

// chained is a value of so many values in one another, by what puts one around.
func chained(many int, d api.Datum, around func(api.Datum) api.Datum) api.Datum {
	for n := nested(d, 70); n < many; n = nested(d, 70) {
		d = around(d)
	}
	return d
}

// chains are schemas, a value of each, and what puts values around it.
func chains() []struct {
	of     string
	d      api.Datum
	around func(api.Datum) api.Datum
} {
	self := func(of string) string { return record("R", of) }
	return []struct {
		of     string
		d      api.Datum
		around func(api.Datum) api.Datum
	}{
		{self(array(`"R"`)), fields(list()), func(d api.Datum) api.Datum { return fields(list(d)) }},
		{self(array(`"R"`)), fields(list()), func(d api.Datum) api.Datum { return fields(list(fields(list()), d, fields(list()))) }},
		{self(dict(`"R"`)), fields(dicted()), func(d api.Datum) api.Datum { return fields(dicted("a", d, "b", fields(dicted()))) }},
		{self(union(`"null"`, `"R"`)), fields(branch(0, null())), func(d api.Datum) api.Datum { return fields(branch(1, d)) }},
		{union(`"null"`, array(record("R", array(`"R"`)))), branch(1, list(fields(list()))), func(d api.Datum) api.Datum {
			return branch(1, list(fields(list(d.List[0].List[0]))))
		}},
		{record("R", `"null"`, union(`"null"`, dict(array(`"R"`))), `"int"`), fields(null(), branch(0, null()), short(1)), func(d api.Datum) api.Datum {
			return fields(null(), branch(1, dicted("a", list(d))), short(2))
		}},
	}
}

// TestDepth: P11.1, P11.2: a value has at most MaxDepth values nested in one another.
func TestDepth(t *testing.T) {
	for _, x := range chains() {
		s := made(x.of)
		for _, many := range []int{2, 3, 4, 60, 61, 62, 63, 64, 65, 66, 67, 68, 69, 100, 1000} {
			d := x.d
			if many < 70 {
				d = chained(many, d, x.around)
			} else {
				for range many {
					d = x.around(d)
				}
			}
			b := bytesOf(s, 0, d)
			if n := nested(d, 70); n <= api.MaxDepth {
				codes(t, s, 0, d, b)
			} else {
				refuses(t, s, 0, d)
				unread(t, s, 0, b)
			}
		}
	}
	// A chain of 64 lists: the schema nests deeper than a value may.
	for many, is := range map[int]bool{62: true, 63: true, 64: false, 65: false, 200: false} {
		s := api.Avro{}
		for i := range many {
			s.Nodes = append(s.Nodes, api.AvroNode{Kind: api.AvroList, Kids: []int{i + 1}})
		}
		s.Nodes = append(s.Nodes, api.AvroNode{Kind: api.AvroLong})
		d, less := long(7), long(7)
		for i := range many {
			if d = list(d); i < 63 {
				less = list(less)
			}
		}
		b := join(strings.Repeat("\x02", many), 14, make([]byte, many))
		if is {
			codes(t, s, 0, d, b)
			cuts(t, s, 0, b)
		} else {
			refuses(t, s, 0, d)
			unread(t, s, 0, b)
			codes(t, s, many-63, less, join(strings.Repeat("\x02", 63), 14, make([]byte, 63)))
		}
	}
}

// TestDepthBeside: P11.1, P11.2: how many values are nested is told by the deepest one alone, wherever it stands.
func TestDepthBeside(t *testing.T) {
	s := made(record("R", array(`"R"`)))
	around := func(d api.Datum) api.Datum { return fields(list(d)) }
	for n := 58; n <= 66; n += 2 {
		one := chained(n, fields(list()), around)
		other := chained(40, fields(list()), around)
		for _, l := range [][]api.Datum{{one, one, one}, {one, other}, {other, one}, {other, one, other}} {
			d := fields(list(l...))
			if b := bytesOf(s, 0, d); n+2 <= api.MaxDepth {
				codes(t, s, 0, d, b)
			} else {
				refuses(t, s, 0, d)
				unread(t, s, 0, b)
			}
		}
	}
}

// TestNumber: P11.1, P11.2: a value has at most MaxData values in all.
func TestNumber(t *testing.T) {
	many := func(n int, d api.Datum) []api.Datum {
		l := make([]api.Datum, n)
		for i := range l {
			l[i] = d
		}
		return l
	}
	keyed := func(n int, d api.Datum) api.Datum {
		v := api.Datum{Kind: api.AvroMap, List: many(n, d)}
		for i := range n {
			v.Keys = append(v.Keys, fmt.Sprint(i))
		}
		return v
	}
	pair := fields(null(), null())
	for i, x := range []struct {
		of   string
		d    api.Datum
		fits bool
	}{
		{array(`"null"`), list(many(api.MaxData-2, null())...), true},
		{array(`"null"`), list(many(api.MaxData-1, null())...), true},
		{array(`"null"`), list(many(api.MaxData, null())...), false},
		{array(`"null"`), list(many(api.MaxData+1, null())...), false},
		{array(`"boolean"`), list(many(2*api.MaxData, boolean(true))...), false},
		{dict(`"int"`), keyed(api.MaxData-1, short(-1)), true},
		{dict(`"int"`), keyed(api.MaxData, short(-1)), false},
		{array(union(`"null"`, `"int"`)), list(many(api.MaxData/2-1, branch(0, null()))...), true},
		{array(union(`"null"`, `"int"`)), list(many(api.MaxData/2, branch(0, null()))...), false},
		{array(record("P", `"null"`, `"null"`)), list(many(api.MaxData/3, pair)...), true},
		{array(record("P", `"null"`, `"null"`)), list(many(api.MaxData/3+1, pair)...), false},
		{array(array(`"null"`)), list(many(255, list(many(256, null())...))...), true},
		{array(array(`"null"`)), list(append(many(255, list(many(256, null())...)), list())...), false},
		{array(array(`"null"`)), list(append(many(254, list(many(256, null())...)), list(many(255, null())...), list())...), true},
		{array(array(`"null"`)), list(append([]api.Datum{list()}, many(255, list(many(256, null())...))...)...), false},
		{record("R", array(`"null"`), array(`"null"`)), fields(list(many(40000, null())...), list(many(25533, null())...)), true},
		{record("R", array(`"null"`), array(`"null"`)), fields(list(many(40000, null())...), list(many(25534, null())...)), false},
		{record("R", array(`"null"`), `"int"`), fields(list(many(api.MaxData-3, null())...), short(1)), true},
		{record("R", array(`"null"`), `"int"`), fields(list(many(api.MaxData-2, null())...), short(1)), false},
	} {
		s := made(x.of)
		b := bytesOf(s, 0, x.d)
		if is := fits(s, 0, x.d); is != x.fits {
			t.Errorf("the tests' values: %d", i)
		}
		if x.fits {
			codes(t, s, 0, x.d, b)
		} else {
			refuses(t, s, 0, x.d)
			unread(t, s, 0, b)
		}
	}
}

// TestNumberOfNone: P11.1, P11.2: records of records that have no bytes have at most MaxData values.
func TestNumberOfNone(t *testing.T) {
	var empty []string
	for range 255 {
		empty = append(empty, `"E"`)
	}
	inner := []string{record("E")}
	inner = append(inner, empty...)
	outer := []string{record("S", inner...)}
	for range 254 {
		outer = append(outer, `"S"`)
	}
	e := fields()
	var se, re api.Datum
	se.Kind, re.Kind = api.AvroRecord, api.AvroRecord
	for range 256 {
		se.List = append(se.List, e)
	}
	for range 255 {
		re.List = append(re.List, se)
	}
	codes(t, made(record("R", outer...)), 0, re, nil) // 1 + 255 * 257
	re.List = append(re.List, e)
	s := made(record("R", append(outer, `"E"`)...))
	refuses(t, s, 0, re)
	unread(t, s, 0, nil)
	unread(t, s, 0, make([]byte, 100))
	s = made(record("R", outer[0], record("T", `"S"`, `"S"`), `"S"`))
	codes(t, s, 0, fields(se, fields(se, se), se), nil)
}

// TestGreat: P11.1: values far beyond the bounds fit nothing, and are asked in time: long lists, deep ones, lists that have one list many times.
func TestGreat(t *testing.T) {
	s := made(record("R", array(`"R"`)))
	deep := fields(list())
	for range 30_000 {
		deep = fields(list(deep))
	}
	refuses(t, s, 0, deep)
	twice := fields(list())
	for range 20 {
		twice = fields(list(twice, twice))
	}
	refuses(t, s, 0, twice)
	refuses(t, s, 0, fields(list(make([]api.Datum, 1<<20)...)))
	for _, d := range []api.Datum{deep, twice} {
		for at := range made(everyKind()).Nodes {
			refuses(t, made(everyKind()), at, d)
		}
	}
	// Bytes are not bounded, but by what may be handed in.
	long := text(strings.Repeat("a", api.MaxText+1))
	b := join(number(api.MaxText+1), long.Bytes)
	s = made(`"string"`)
	if got, e := avrocodec.Encode(s, long); e != api.OK || string(got) != string(b) {
		t.Errorf("P11.1: Encode of a long text: %d", e)
	}
	if n, e := avrocodec.Size(s, long); e != api.OK || n != len(b) {
		t.Errorf("P11.1: Size of a long text: %d, %d", n, e)
	}
	if d, e := avrocodec.Decode(s, b); e != api.OK || !same(d, long) {
		t.Errorf("P11.2: Decode of a long text: %d", e)
	}
}
