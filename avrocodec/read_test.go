package avrocodec_test

import (
	"math"
	"math/big"
	"strings"
	"testing"

	"lexicon/api"
	"lexicon/avrocodec"
)

// TestLoose: P11.2: a zigzag number may have up to 10 bytes, of 64 bits, and need not be as short as goes.
func TestLoose(t *testing.T) {
	longs, ints := made(`"long"`), made(`"int"`)
	for _, n := range []int64{0, 1, -1, 63, 64, -64, -65, 1 << 20, math.MaxInt32, math.MinInt32, math.MaxInt32 + 1, 1 << 62, -1 << 62, math.MaxInt64, math.MinInt64} {
		for least := 1; least <= 14; least++ {
			b := zigzag(big.NewInt(n), least)
			if len(b) > 10 {
				unread(t, longs, 0, b)
				unread(t, ints, 0, b)
				continue
			}
			takes(t, longs, 0, long(n), b)
			cuts(t, longs, 0, b)
			if n == int64(int32(n)) {
				takes(t, ints, 0, short(n), b)
			} else {
				unread(t, ints, 0, b)
			}
		}
	}
	for _, b := range [][]byte{
		join(strings.Repeat("\x80", 9), 2),
		join(strings.Repeat("\x80", 9), 3),
		join(strings.Repeat("\xff", 9), 2),
		join(strings.Repeat("\xff", 9), 127),
		join(strings.Repeat("\x80", 9), 64),
		join(strings.Repeat("\x80", 9), 128, 0),
		join(strings.Repeat("\x80", 9), 129, 0),
		join(strings.Repeat("\x80", 10), 0),
		join(strings.Repeat("\x80", 10), 1),
		join(strings.Repeat("\xff", 9), 129, 0),
		join(strings.Repeat("\xff", 10), 1),
		join(strings.Repeat("\x80", 9), 128),
		join(strings.Repeat("\xff", 10)),
		join(strings.Repeat("\xff", 100), 0),
		join(strings.Repeat("\x80", 1000), 0),
	} {
		unread(t, longs, 0, b)
		unread(t, ints, 0, b)
		unread(t, made(`"bytes"`), 0, b)
		unread(t, made(enum("E", "A")), 0, b)
		unread(t, made(union(`"null"`)), 0, b)
		unread(t, made(array(`"null"`)), 0, b)
		unread(t, made(dict(`"null"`)), 0, join(2, b))
	}
	takes(t, longs, 0, long(0), join(strings.Repeat("\x80", 9), 0))
	takes(t, longs, 0, long(-1), join(129, strings.Repeat("\x80", 8), 0))
	takes(t, longs, 0, long(1<<62), join(strings.Repeat("\x80", 9), 1))
	takes(t, longs, 0, long(math.MinInt64), join(strings.Repeat("\xff", 9), 1))
	takes(t, ints, 0, short(0), join(strings.Repeat("\x80", 9), 0))
}

// TestLooseWithin: P11.2: also places, branches, lengths and a piece's numbers need not be as short as goes.
func TestLooseWithin(t *testing.T) {
	zero, one := "\x80\x80\x00", "\x82\x80\x80\x80\x80\x80\x80\x80\x80\x00"
	takes(t, made(enum("E", "A", "B")), 0, symbol(1), join(one))
	takes(t, made(union(`"null"`, `"int"`)), 0, branch(1, short(0)), join(one, zero))
	takes(t, made(`"bytes"`), 0, binary("a"), join(one, "a"))
	takes(t, made(`"string"`), 0, text("a"), join(one, "a"))
	takes(t, made(`"string"`), 0, text(""), join(zero))
	takes(t, made(array(`"null"`)), 0, list(null(), null()), join(one, one, zero))
	takes(t, made(array(`"int"`)), 0, list(short(1)), join("\x81\x00", "\x82\x00", 2, zero))
	takes(t, made(dict(`"boolean"`)), 0, dicted("a", boolean(true), "", boolean(false)), join(one, one, "a", 1, "\x81\x80\x00", "\x86\x80\x00", "\x80\x00", 0, zero))
}

// TestPieces: P11.2: lists and maps are read off several pieces, also such as tell how many bytes they have.
func TestPieces(t *testing.T) {
	ints := made(array(`"int"`))
	three := list(short(1), short(2), short(-3))
	for _, b := range [][]byte{
		{6, 2, 4, 5, 0},
		{2, 2, 4, 4, 5, 0},
		{4, 2, 4, 2, 5, 0},
		{2, 2, 2, 4, 2, 5, 0},
		{5, 6, 2, 4, 5, 0},
		{1, 2, 2, 3, 4, 4, 5, 0},
		{1, 2, 2, 4, 4, 5, 0},
		{2, 2, 3, 4, 4, 5, 0},
		{1, 2, 2, 1, 2, 4, 1, 2, 5, 0},
		{5, 8, 130, 0, 4, 5, 0},
		{5, 10, 130, 0, 4, 133, 0, 0},
	} {
		takes(t, ints, 0, three, b)
		cuts(t, ints, 0, b)
	}
	for _, b := range [][]byte{
		{5, 4, 2, 4, 5, 0},       // fewer bytes than there are
		{5, 8, 2, 4, 5, 0},       // more
		{5, 8, 2, 4, 5, 0, 0},    // more, which go into what ends the list
		{5, 0, 2, 4, 5, 0},       // none
		{5, 5, 2, 4, 5, 0},       // below 0
		{5, 7, 2, 4, 5, 0},       // below 0, as far
		{5, 1, 2, 4, 5, 0},       // below 0, by one
		{1, 2, 2, 3, 2, 4, 5, 0}, // the second piece's
		{1, 4, 2, 3, 4, 4, 5, 0}, // the first one's
		{3, 6, 2, 4, 2, 5, 0},    // two pieces' in one
		{5, 6, 130, 0, 4, 5, 0},  // of a number that is not as short as goes
		{3, 4, 2, 4, 5, 0},       // more values than it says
		{7, 6, 2, 4, 5, 0},       // fewer
		{7, 8, 2, 4, 5, 0},       // fewer, with what ends the list
		{8, 2, 4, 5, 0},          // fewer, without a number of bytes
		{6, 6, 2, 4, 5, 1},       // no end
		{6, 2, 4, 5, 128},        // an end that does not end
		{5, 254, 255, 255, 15, 2, 4, 5, 0},
		join(5, number(math.MaxInt64), 2, 4, 5, 0),
		join(5, number(math.MinInt64), 2, 4, 5, 0),
		join(5, number(3+1<<32), 2, 4, 5, 0),
		join(5, number(-3), 2, 4, 5, 0),
	} {
		unread(t, ints, 0, b)
	}
	takes(t, made(array(`"null"`)), 0, list(null(), null(), null()), []byte{3, 0, 2, 0})
	takes(t, made(array(fixed("F", 0))), 0, list(fix(""), fix("")), []byte{1, 0, 1, 0, 0})
	unread(t, made(array(`"null"`)), 0, []byte{3, 2, 2, 0})
	unread(t, made(array(`"null"`)), 0, []byte{3, 1, 2, 0})
	takes(t, made(array(`"string"`)), 0, list(text("ab"), text("")), join(3, 8, 4, "ab", 0, 0))
	takes(t, made(array(array(`"int"`))), 0, list(list(short(1), short(2)), list()), []byte{1, 14, 1, 2, 2, 1, 2, 4, 0, 2, 0, 0})
	unread(t, made(array(array(`"int"`))), 0, []byte{1, 12, 1, 2, 2, 1, 2, 4, 0, 2, 0, 0})
}

// TestPiecesOfMaps: P11.2: a map's pieces have keys, which count as bytes of them; no key is met twice, in whatever pieces.
func TestPiecesOfMaps(t *testing.T) {
	s := made(dict(`"int"`))
	d := dicted("b", short(1), "", short(2), "a", short(3))
	for _, b := range [][]byte{
		join(6, 2, "b", 2, 0, 4, 2, "a", 6, 0),
		join(2, 2, "b", 2, 4, 0, 4, 2, "a", 6, 0),
		join(5, 16, 2, "b", 2, 0, 4, 2, "a", 6, 0),
		join(1, 6, 2, "b", 2, 1, 4, 0, 4, 1, 6, 2, "a", 6, 0),
		join(3, 10, 2, "b", 2, 0, 4, 2, 2, "a", 6, 0),
		join(5, 18, 130, 0, "b", 2, 0, 4, 2, "a", 6, 0),
	} {
		takes(t, s, 0, d, b)
		cuts(t, s, 0, b)
	}
	for _, b := range [][]byte{
		join(5, 14, 2, "b", 2, 0, 4, 2, "a", 6, 0),
		join(5, 18, 2, "b", 2, 0, 4, 2, "a", 6, 0),
		join(5, 6, 2, "b", 2, 0, 4, 2, "a", 6, 0), // its values' alone
		join(5, 12, 2, "b", 2, 0, 4, 2, "a", 6, 0),
		join(5, 0, 2, "b", 2, 0, 4, 2, "a", 6, 0),
		join(5, 15, 2, "b", 2, 0, 4, 2, "a", 6, 0),
		join(4, 2, "b", 2, 2, "b", 2, 0),
		join(4, 2, "b", 2, 2, "b", 4, 0),
		join(2, 2, "b", 2, 2, 2, "b", 2, 0),
		join(2, 2, "b", 2, 1, 6, 2, "b", 2, 0),
		join(2, 0, 2, 2, 2, "b", 2, 2, 0, 2, 0),
		join(2, 1, "b", 2, 0),    // a key of -1 bytes
		join(2, 3, 2, "b", 2, 0), // of -2
		join(2, 8, "b", 2, 0),    // of more than there are
		join(2, 10, "b", 2, 0),
		join(2, number(math.MinInt64), "b", 2, 0),
		join(2, number(math.MaxInt64), "b", 2, 0),
		join(2, number(1+1<<32), "b", 2, 0),
		join(2, 2, "\xff", 2, 0),
		join(2, 2, "\xc3\xa9", 0),
		join(4, 2, "\xc3", 2, 2, "\xa9", 2, 0),
	} {
		unread(t, s, 0, b)
	}
	takes(t, made(dict(`"null"`)), 0, dicted("a", null(), "b", null()), join(1, 4, 2, "a", 2, 2, "b", 0))
	takes(t, made(dict(dict(`"null"`))), 0, dicted("a", dicted("a", null()), "b", dicted("a", null())), join(2, 2, "a", 1, 4, 2, "a", 0, 1, 12, 2, "b", 2, 2, "a", 0, 0))
}

// TestManyPieces: P11.2: pieces that have many values, and many pieces, have at most MaxData values in all.
func TestManyPieces(t *testing.T) {
	nulls := made(array(`"null"`))
	many := func(n int) api.Datum { return list(make([]api.Datum, n)...) }
	for _, b := range [][]byte{
		join(number(api.MaxData-1), 0),
		join(number(1-api.MaxData), 0, 0),
		join(number(api.MaxData-2), 2, 0),
		join(2, number(2-api.MaxData), 0, 0),
		join(number(1<<15), number(1<<15-1), 0),
		join(strings.Repeat("\x02", api.MaxData-1), 0),
		join(strings.Repeat("\x01\x00", api.MaxData-1), 0),
	} {
		takes(t, nulls, 0, many(api.MaxData-1), b)
	}
	for _, b := range [][]byte{
		join(number(api.MaxData), 0),
		join(number(-api.MaxData), 0, 0),
		join(number(api.MaxData-1), 2, 0),
		join(2, number(api.MaxData-1), 0),
		join(number(api.MaxData-1), 1, 0, 0),
		join(number(1<<15), number(1<<15), 0),
		join(strings.Repeat("\x02", api.MaxData), 0),
		join(strings.Repeat("\x01\x00", api.MaxData), 0),
	} {
		unread(t, nulls, 0, b)
	}
	records := made(array(record("R", `"null"`, fixed("F", 0))))
	booleans, maps := made(array(`"boolean"`)), made(dict(`"null"`))
	for _, n := range []int64{api.MaxData + 1, 1 << 32, 1<<32 + 1, 1 << 62, math.MaxInt64} {
		unread(t, nulls, 0, join(number(n), 0, 0))
		unread(t, nulls, 0, join(number(-n), 0, 0))
		unread(t, nulls, 0, join(number(-n-1), 0, 0))
		unread(t, nulls, 0, join(2, number(n), 0, 0))
		unread(t, nulls, 0, join(1, 0, number(-n-1), 0, 0))
		unread(t, nulls, 0, join(number(-n-1), number(-n-1), 0))
		unread(t, records, 0, join(number(n), 0, 0))
		unread(t, records, 0, join(number(-n-1), 0, 0))
		for _, some := range []int{0, 1, 100} {
			unread(t, booleans, 0, join(number(n), make([]byte, some)))
			unread(t, booleans, 0, join(number(-n), number(int64(some)), make([]byte, some), 0))
			unread(t, booleans, 0, join(number(-n-1), number(int64(some)), make([]byte, some), 0))
			unread(t, booleans, 0, join(2, 1, number(n), make([]byte, some)))
			unread(t, maps, 0, join(number(n), make([]byte, some)))
			unread(t, maps, 0, join(number(-n-1), 2, make([]byte, some)))
		}
	}
	least := number(math.MinInt64)
	unread(t, nulls, 0, least)
	unread(t, nulls, 0, join(least, 0, 0))
	unread(t, nulls, 0, join(least, least, 0))
	unread(t, made(array(`"int"`)), 0, join(least, 0, 0))
	unread(t, made(array(`"int"`)), 0, join(least, 2, 2, 0))
	unread(t, made(dict(`"int"`)), 0, join(least, 0, 0))
	unread(t, made(dict(`"int"`)), 0, join(least, 4, 0, 0, 0))
	// Lists in a list, each with as many as it likes.
	s := made(array(array(`"null"`)))
	unread(t, s, 0, join(number(256), strings.Repeat(string(join(number(256), 0)), 256), 0))
	unread(t, s, 0, join(number(1<<40), strings.Repeat(string(join(number(1<<40), 0)), 256), 0))
}

// TestBooleans: P11.2: a boolean's byte is 0 or 1.
func TestBooleans(t *testing.T) {
	for c := range 256 {
		s := made(`"boolean"`)
		if c < 2 {
			takes(t, s, 0, boolean(c == 1), []byte{byte(c)})
		} else {
			unread(t, s, 0, []byte{byte(c)})
			unread(t, s, 0, []byte{byte(c), 0})
			unread(t, made(array(`"boolean"`)), 0, []byte{4, 1, byte(c), 0})
		}
	}
}

// TestLengths: P11.2: bytes and strings have a length from 0 on, not past the end.
func TestLengths(t *testing.T) {
	for _, of := range []string{`"bytes"`, `"string"`} {
		s := made(of)
		l := made(record("R", of, `"null"`))
		for _, n := range []int64{-1, -2, -3, 1, 2, 3, 4, 63, 64, 1 << 20, 1 << 31, 1 << 32, 1<<32 + 1, 1 << 62, math.MaxInt64, math.MaxInt64 - 1, math.MinInt64, math.MinInt64 + 1, math.MinInt32, -1 << 32} {
			b := join(number(n), "ab")
			if 0 <= n && n <= 2 {
				d, size, e := avrocodec.Take(s, 0, b)
				if e != api.OK || size != 1+int(n) || string(d.Bytes) != "ab"[:n] {
					t.Errorf("P11.2: Take of %d bytes: %s, %d, %d", n, show(d), size, e)
				}
				continue
			}
			unread(t, s, 0, b)
			unread(t, l, 0, b)
			roomy := append(b, "abcd"...)
			unread(t, s, 0, roomy[:len(b)])
		}
		if d, n, e := avrocodec.Take(s, 0, join(4, "abc")); e != api.OK || n != 3 || string(d.Bytes) != "ab" {
			t.Errorf("P11.2: Take of bytes and more: %s, %d, %d", show(d), n, e)
		}
	}
	for _, n := range []int{0, 1, 2, 3} {
		for _, many := range []int{4, 8} {
			unread(t, made(map[int]string{4: `"float"`, 8: `"double"`}[many]), 0, make([]byte, many-1-n))
		}
	}
}

// TestRound: P11.2: records that hold themselves have no value, whatever the bytes; so do those that hold each other.
func TestRound(t *testing.T) {
	for _, of := range []string{
		record("R", `"R"`),
		record("R", `"null"`, `"R"`, `"int"`),
		record("R", `"R"`, `"R"`),
		record("R", record("S", `"R"`)),
		record("R", record("S", record("T", `"S"`, `"R"`), `"T"`), `"S"`),
		record("R", union(`"R"`)),
		record("R", fixed("F", 0), union(`"R"`, `"F"`)),
	} {
		s := made(of)
		for _, b := range [][]byte{nil, {}, {0}, make([]byte, 64), make([]byte, 1000), []byte(strings.Repeat("\x01", 100))} {
			unread(t, s, 0, b)
		}
		d := fields()
		for range 70 {
			refuses(t, s, 0, d)
			d = fields(d)
		}
	}
	s := made(record("R", fixed("F", 0), union(`"R"`, `"F"`)))
	takes(t, s, 0, fields(fix(""), branch(1, fix(""))), []byte{2})
	takes(t, s, 0, fields(fix(""), branch(0, fields(fix(""), branch(1, fix(""))))), []byte{0, 2})
}

// TestAll: P11.2: all short bytes, and longer ones of some bytes, are read as the chapter's words ask.
func TestAll(t *testing.T) {
	var l [][]byte
	grow := func(bytes []byte, many int) {
		from := [][]byte{nil}
		for range many {
			var next [][]byte
			for _, b := range from {
				for _, c := range bytes {
					next = append(next, join(b, int(c)))
				}
			}
			l, from = append(l, next...), next
		}
	}
	all := make([]byte, 256)
	for i := range all {
		all[i] = byte(i)
	}
	grow(all, 1)
	grow([]byte{0, 1, 2, 3, 4, 5, 6, 97, 127, 128, 129, 255}, 3)
	grow([]byte{0, 1, 2, 3, 4}, 6)
	read := 0
	for _, of := range []string{`"null"`, `"boolean"`, `"int"`, `"long"`, `"float"`, `"bytes"`, `"string"`, enum("E", "A", "B"), fixed("F", 2), array(`"null"`), array(`"int"`), array(array(`"boolean"`)), dict(`"null"`), dict(`"boolean"`), union(`"null"`, `"int"`), record("R", `"boolean"`, array(`"int"`)), record("R", union(`"null"`, array(`"R"`), dict(`"R"`)))} {
		s := made(of)
		for _, b := range l {
			d, size, ok := taken(s, 0, b)
			if ok {
				read++
			}
			got, n, e := avrocodec.Take(s, 0, b)
			if ok != (e == api.OK) || !ok && e != api.ErrCodec || n != size || !same(got, d) {
				t.Fatalf("P11.2: Take of %v, %s: %s, %d, %d; not %s, %d, %t", b, of, show(got), n, e, show(d), size, ok)
			}
			ok = ok && size == len(b)
			if !ok {
				d = api.Datum{}
			}
			got, e = avrocodec.Decode(s, b)
			if ok != (e == api.OK) || !ok && e != api.ErrCodec || !same(got, d) {
				t.Fatalf("P11.2: Decode of %v, %s: %s, %d; not %s, %t", b, of, show(got), e, show(d), ok)
			}
		}
	}
	if read < 100_000 {
		t.Errorf("the tests' bytes: %d", read)
	}
}
