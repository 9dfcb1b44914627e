package avrocodec_test

import (
	"bytes"
	"fmt"
	"math"
	"strconv"
	"strings"
	"testing"

	"lexicon/api"
	"lexicon/avro"
	"lexicon/avrocodec"
)

// made is the schema that a text tells.
func made(text string) api.Avro {
	s, e := avro.Make([]byte(text))
	if e != api.OK {
		panic(fmt.Sprintf("the tests' schema %.300s: %d", text, e))
	}
	return s
}

// record and those below are the pieces of which the tests' schemas are made.
func record(name string, types ...string) string {
	var l []string
	for i, of := range types {
		l = append(l, `{"name":"f`+strconv.Itoa(i)+`","type":`+of+`}`)
	}
	return `{"type":"record","name":"` + name + `","fields":[` + strings.Join(l, ",") + `]}`
}

func enum(name string, symbols ...string) string {
	return `{"type":"enum","name":"` + name + `","symbols":["` + strings.Join(symbols, `","`) + `"]}`
}

func fixed(name string, size int) string {
	return `{"type":"fixed","name":"` + name + `","size":` + strconv.Itoa(size) + `}`
}

func array(of string) string { return `{"type":"array","items":` + of + `}` }

func dict(of string) string { return `{"type":"map","values":` + of + `}` }

func union(of ...string) string { return "[" + strings.Join(of, ",") + "]" }

// null and those below are values.
func null() api.Datum { return api.Datum{} }

func boolean(b bool) api.Datum { return api.Datum{Kind: api.AvroBool, Bool: b} }

func short(n int64) api.Datum { return api.Datum{Kind: api.AvroInt, Int: n} }

func long(n int64) api.Datum { return api.Datum{Kind: api.AvroLong, Int: n} }

func float(bits uint64) api.Datum { return api.Datum{Kind: api.AvroFloat, Bits: bits} }

func double(bits uint64) api.Datum { return api.Datum{Kind: api.AvroDouble, Bits: bits} }

func binary(s string) api.Datum { return api.Datum{Kind: api.AvroBytes, Bytes: []byte(s)} }

func text(s string) api.Datum { return api.Datum{Kind: api.AvroText, Bytes: []byte(s)} }

func fields(l ...api.Datum) api.Datum { return api.Datum{Kind: api.AvroRecord, List: l} }

func symbol(at int64) api.Datum { return api.Datum{Kind: api.AvroEnum, Int: at} }

func fix(s string) api.Datum { return api.Datum{Kind: api.AvroFixed, Bytes: []byte(s)} }

func list(l ...api.Datum) api.Datum { return api.Datum{Kind: api.AvroList, List: l} }

func branch(at int64, d api.Datum) api.Datum {
	return api.Datum{Kind: api.AvroUnion, Int: at, List: []api.Datum{d}}
}

// dicted is a map of keys and values, in turn.
func dicted(l ...any) api.Datum {
	d := api.Datum{Kind: api.AvroMap}
	for i := 0; i < len(l); i += 2 {
		d.Keys, d.List = append(d.Keys, l[i].(string)), append(d.List, l[i+1].(api.Datum))
	}
	return d
}

// join are bytes behind one another.
func join(l ...any) []byte {
	var b []byte
	for _, x := range l {
		switch x := x.(type) {
		case int:
			b = append(b, byte(x))
		case string:
			b = append(b, x...)
		case []byte:
			b = append(b, x...)
		}
	}
	return b
}

// show tells a value, or bytes, in a few letters.
func show(x any) string {
	switch x := x.(type) {
	case api.Datum:
		if n := total(x); n > 1000 {
			return fmt.Sprintf("a value of %d values", n)
		}
	case []byte:
		if len(x) > 1000 {
			return fmt.Sprintf("%v .. (%d bytes)", x[:50], len(x))
		}
	}
	s := fmt.Sprint(x)
	return s[:min(len(s), 300)]
}

// takes complains if bytes are not read as a value of a node, whatever stands behind them.
func takes(t *testing.T, s api.Avro, at int, d api.Datum, b []byte) {
	t.Helper()
	behinds := []string{"", "\x00", "\x02", "\x80", "\xff\xff\xff", "a"}
	if len(d.List) > 10_000 {
		behinds = behinds[:2] // to save time
	}
	for _, behind := range behinds {
		got, n, e := avrocodec.Take(s, at, join(b, behind))
		if e != api.OK || n != len(b) || !same(got, d) {
			t.Errorf("P11.2: Take of %s and %q: %s, %d, %d; not %s, %d", show(b), behind, show(got), n, e, show(d), len(b))
		}
		if at != s.Root {
			continue
		}
		got, e = avrocodec.Decode(s, join(b, behind))
		if behind == "" && (e != api.OK || !same(got, d)) {
			t.Errorf("P11.2: Decode of %s: %s, %d; not %s", show(b), show(got), e, show(d))
		}
		if behind != "" && (e != api.ErrCodec || !same(got, api.Datum{})) {
			t.Errorf("P11.2: Decode of %s and %q: %s, %d", show(b), behind, show(got), e)
		}
	}
}

// codes complains if a value that fits a node does not have these bytes.
func codes(t *testing.T, s api.Avro, at int, d api.Datum, b []byte) {
	t.Helper()
	if e := avrocodec.Check(s, at, d); e != api.OK {
		t.Errorf("P11.1: Check of %s: %d", show(d), e)
	}
	if at == s.Root {
		if got, e := avrocodec.Encode(s, d); e != api.OK || !bytes.Equal(got, b) {
			t.Errorf("P11.1: Encode of %s: %s, %d; not %s", show(d), show(got), e, show(b))
		}
		if n, e := avrocodec.Size(s, d); e != api.OK || n != len(b) {
			t.Errorf("P11.1: Size of %s: %d, %d; not %d", show(d), n, e, len(b))
		}
	}
	takes(t, s, at, d, b)
	if !fits(s, at, d) || !bytes.Equal(bytesOf(s, at, d), b) {
		t.Errorf("the tests' model: %s, %s", show(d), show(b))
	}
	if got, n, ok := taken(s, at, join(b, "\xff\xff\xff")); !ok || n != len(b) || !same(got, d) {
		t.Errorf("the tests' model: %s, %s", show(d), show(b))
	}
}

// cuts complains if bytes that end early, at whatever place, are a value of a node.
func cuts(t *testing.T, s api.Avro, at int, b []byte) {
	t.Helper()
	for n := range b {
		unread(t, s, at, b[:n:n])
		unread(t, s, at, b[:n]) // what stands in the room behind does not count
	}
}

// refuses complains if a value fits a node.
func refuses(t *testing.T, s api.Avro, at int, d api.Datum) {
	t.Helper()
	if e := avrocodec.Check(s, at, d); e != api.ErrDatum {
		t.Errorf("P11.1: Check of %s: %d", show(d), e)
	}
	if at == s.Root {
		if got, e := avrocodec.Encode(s, d); e != api.ErrDatum || len(got) != 0 {
			t.Errorf("P11.1: Encode of %s: %s, %d", show(d), show(got), e)
		}
		if n, e := avrocodec.Size(s, d); e != api.ErrDatum || n != 0 {
			t.Errorf("P11.1: Size of %s: %d, %d", show(d), n, e)
		}
	}
}

// unread complains if bytes begin with a value of a node.
func unread(t *testing.T, s api.Avro, at int, b []byte) {
	t.Helper()
	if got, n, e := avrocodec.Take(s, at, b); e != api.ErrCodec || n != 0 || !same(got, api.Datum{}) {
		t.Errorf("P11.2: Take of %s: %s, %d, %d", show(b), show(got), n, e)
	}
	if at == s.Root {
		if got, e := avrocodec.Decode(s, b); e != api.ErrCodec || !same(got, api.Datum{}) {
			t.Errorf("P11.2: Decode of %s: %s, %d", show(b), show(got), e)
		}
	}
	if _, _, ok := taken(s, at, b); ok {
		t.Errorf("the tests' model: %s", show(b))
	}
}

// TestExamples: P11.1, P11.2: the chapter's examples.
func TestExamples(t *testing.T) {
	codes(t, made(`"int"`), 0, short(-1), []byte{1})
	codes(t, made(`"int"`), 0, short(64), []byte{128, 1})
	codes(t, made(`"long"`), 0, long(1<<62), []byte{128, 128, 128, 128, 128, 128, 128, 128, 128, 1})
	codes(t, made(`"string"`), 0, text("ab"), []byte{4, 97, 98})
	codes(t, made(union(`"null"`, `"int"`)), 0, branch(1, short(3)), []byte{2, 6})
	codes(t, made(array(`"int"`)), 0, list(short(1), short(2)), []byte{4, 2, 4, 0})
	codes(t, made(array(`"int"`)), 0, list(), []byte{0})
	takes(t, made(array(`"int"`)), 0, list(short(1), short(2)), []byte{3, 4, 2, 4, 0})
}

// TestKinds: P11.1, P11.2: values of each kind, and their bytes, which may not end early.
func TestKinds(t *testing.T) {
	many := strings.Repeat("é", 100)
	for _, x := range []struct {
		of string
		d  api.Datum
		b  []byte
	}{
		{`"null"`, null(), nil},
		{`"boolean"`, boolean(false), []byte{0}},
		{`"boolean"`, boolean(true), []byte{1}},
		{`"float"`, float(0), make([]byte, 4)},
		{`"float"`, float(0x01020304), []byte{4, 3, 2, 1}},
		{`"float"`, float(uint64(math.Float32bits(1.5))), []byte{0, 0, 0xc0, 0x3f}},
		{`"float"`, float(0x80000000), []byte{0, 0, 0, 128}},
		{`"float"`, float(0xffffffff), []byte{255, 255, 255, 255}},
		{`"float"`, float(0x7f800001), []byte{1, 0, 0x80, 0x7f}}, // no number, one that signals
		{`"double"`, double(0), make([]byte, 8)},
		{`"double"`, double(0x0102030405060708), []byte{8, 7, 6, 5, 4, 3, 2, 1}},
		{`"double"`, double(math.Float64bits(1.5)), []byte{0, 0, 0, 0, 0, 0, 0xf8, 0x3f}},
		{`"double"`, double(1 << 63), []byte{0, 0, 0, 0, 0, 0, 0, 128}},
		{`"double"`, double(1 << 32), []byte{0, 0, 0, 0, 1, 0, 0, 0}},
		{`"double"`, double(math.MaxUint64), []byte{255, 255, 255, 255, 255, 255, 255, 255}},
		{`"double"`, double(0x7ff0000000000001), []byte{1, 0, 0, 0, 0, 0, 0xf0, 0x7f}},
		{`"bytes"`, binary(""), []byte{0}},
		{`"bytes"`, binary("\x00\xff\x80"), []byte{6, 0, 255, 128}},
		{`"bytes"`, binary(strings.Repeat("\xff", 63)), join(126, strings.Repeat("\xff", 63))},
		{`"bytes"`, binary(strings.Repeat("\xff", 64)), join(128, 1, strings.Repeat("\xff", 64))},
		{`"string"`, text(""), []byte{0}},
		{`"string"`, text("a\x00\u00e9\u20ac\U0001f600\ufffd"), join(28, "a\x00\u00e9\u20ac\U0001f600\ufffd")},
		{`"string"`, text("\U0010ffff\ufeff"), join(14, "\U0010ffff\ufeff")},
		{`"string"`, text(many), join(144, 3, many)},
		{fixed("F", 0), fix(""), nil},
		{fixed("F", 1), fix("\xff"), []byte{255}},
		{fixed("F", 3), fix("\x00\x01\x80"), []byte{0, 1, 128}},
		{enum("E", "A"), symbol(0), []byte{0}},
		{enum("E", "A", "B", "C"), symbol(0), []byte{0}},
		{enum("E", "A", "B", "C"), symbol(1), []byte{2}},
		{enum("E", "A", "B", "C"), symbol(2), []byte{4}},
		{`{"type":"enum","name":"E","symbols":["A","B"],"default":"B"}`, symbol(0), []byte{0}},
		{record("R"), fields(), nil},
		{record("R", `"int"`), fields(short(5)), []byte{10}},
		{record("R", `"int"`, `"null"`, `"string"`, `"boolean"`), fields(short(-64), null(), text("ab"), boolean(true)), []byte{127, 4, 'a', 'b', 1}},
		{record("R", record("S", `"int"`, fixed("F", 2)), `"S"`, `"F"`), fields(fields(short(1), fix("ab")), fields(short(2), fix("cd")), fix("ef")), join(2, "ab", 4, "cd", "ef")},
		{`{"type":"record","name":"R","fields":[{"name":"a","type":"int","default":7},{"name":"b","type":["null","int"],"default":null}]}`, fields(short(0), branch(0, null())), []byte{0, 0}},
		{record("R", union(`"null"`, `"R"`)), fields(branch(1, fields(branch(1, fields(branch(0, null())))))), []byte{2, 2, 0}},
		{array(`"null"`), list(), []byte{0}},
		{array(`"null"`), list(null()), []byte{2, 0}},
		{array(`"null"`), list(null(), null(), null()), []byte{6, 0}},
		{array(`"string"`), list(text("a"), text(""), text("bc")), join(6, 2, "a", 0, 4, "bc", 0)},
		{array(array(`"int"`)), list(list(), list(short(1)), list(short(2), short(3))), []byte{6, 0, 2, 2, 0, 4, 4, 6, 0, 0}},
		{dict(`"int"`), dicted(), []byte{0}},
		{dict(`"int"`), dicted("", short(1)), []byte{2, 0, 2, 0}},
		{dict(`"int"`), dicted("b", short(1), "a", short(1), "\u00e9", short(-1)), join(6, 2, "b", 2, 2, "a", 2, 4, "\u00e9", 1, 0)},
		{dict(`"null"`), dicted("a", null(), "aa", null(), "", null(), "\x00", null()), join(8, 2, "a", 4, "aa", 0, 2, "\x00", 0)},
		{dict(dict(`"boolean"`)), dicted("a", dicted("a", boolean(true)), "b", dicted()), join(4, 2, "a", 2, 2, "a", 1, 0, 2, "b", 0, 0)},
		{union(`"null"`), branch(0, null()), []byte{0}},
		{union(`"int"`, `"null"`), branch(0, short(9)), []byte{0, 18}},
		{union(`"int"`, `"null"`), branch(1, null()), []byte{2}},
		{union(`"string"`, fixed("F", 1), fixed("G", 2), array(`"int"`)), branch(2, fix("ab")), join(4, "ab")},
		{union(`"string"`, fixed("F", 1), fixed("G", 2), array(`"int"`)), branch(3, list(short(1))), []byte{6, 2, 2, 0}},
		{union(`"null"`, array(union(`"null"`, `"int"`))), branch(1, list(branch(1, short(1)), branch(0, null()))), []byte{2, 4, 2, 2, 0, 0}},
	} {
		s := made(x.of)
		codes(t, s, 0, x.d, x.b)
		cuts(t, s, 0, x.b)
	}
}

// TestNumbers: P11.1, P11.2: whole numbers of as few bytes as go, at each place where one more byte begins, and at both ends.
func TestNumbers(t *testing.T) {
	ints, longs := made(`"int"`), made(`"long"`)
	numbers := []int64{0, 1, -1, 63, 64, -64, -65, 2147483647, 2147483648, -2147483648, -2147483649, 4294967295, 4294967296, math.MaxInt64, math.MinInt64, math.MaxInt64 - 1, math.MinInt64 + 1}
	for bit := range 63 {
		for by := int64(-2); by <= 2; by++ {
			numbers = append(numbers, 1<<bit+by, -1<<bit+by)
		}
	}
	for _, n := range numbers {
		b := number(n)
		codes(t, longs, 0, long(n), b)
		cuts(t, longs, 0, b)
		if n == int64(int32(n)) {
			codes(t, ints, 0, short(n), b)
			cuts(t, ints, 0, b)
		} else {
			refuses(t, ints, 0, short(n))
			unread(t, ints, 0, b)
		}
	}
	codes(t, ints, 0, short(math.MaxInt32), []byte{254, 255, 255, 255, 15})
	codes(t, ints, 0, short(math.MinInt32), []byte{255, 255, 255, 255, 15})
	unread(t, ints, 0, []byte{128, 128, 128, 128, 16})
	unread(t, ints, 0, []byte{129, 128, 128, 128, 16})
	codes(t, longs, 0, long(math.MaxInt64), []byte{254, 255, 255, 255, 255, 255, 255, 255, 255, 1})
	codes(t, longs, 0, long(math.MinInt64), []byte{255, 255, 255, 255, 255, 255, 255, 255, 255, 1})
}

// TestNodes: P11.1, P11.2: Check and Take go by the node that they are told, also by one within; Encode, Size and Decode by the root.
func TestNodes(t *testing.T) {
	s := made(record("R", `"int"`, `"long"`, array(record("S", `"string"`)), union(`"null"`, `"R"`)))
	values := []api.Datum{
		fields(short(1), long(2), list(fields(text("a"))), branch(0, null())),
		short(3),
		long(4),
		list(fields(text("b")), fields(text(""))),
		fields(text("c")),
		text("d"),
		branch(1, fields(short(5), long(6), list(), branch(0, null()))),
		null(),
	}
	for at := range s.Nodes {
		for i, d := range values {
			if i == at {
				codes(t, s, at, d, bytesOf(s, at, d))
				cuts(t, s, at, bytesOf(s, at, d))
				continue
			}
			refuses(t, s, at, d)
		}
	}
}
