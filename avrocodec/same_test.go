package avrocodec_test

import (
	"math"
	"strings"
	"testing"

	"lexicon/api"
	"lexicon/avrocodec"
)

// isSame complains if two values are not the same, or are, whichever is asked first.
func isSame(t *testing.T, a, b api.Datum, want bool) {
	t.Helper()
	if got := avrocodec.Same(a, b); got != want {
		t.Errorf("P11.3: Same of %s, %s: %t", show(a), show(b), got)
	}
	if got := avrocodec.Same(b, a); got != want {
		t.Errorf("P11.3: Same of %s, %s: %t", show(b), show(a), got)
	}
}

// differing are values each of which differs from a value in one field alone.
func differing(d api.Datum) []api.Datum {
	var l []api.Datum
	add := func(edit func(d *api.Datum)) {
		c := copied(d)
		edit(&c)
		l = append(l, c)
	}
	add(func(d *api.Datum) { d.Kind++ })
	add(func(d *api.Datum) { d.Kind = -d.Kind - 1 })
	add(func(d *api.Datum) { d.Kind ^= 1 << 40 })
	add(func(d *api.Datum) { d.Bool = !d.Bool })
	for _, bit := range []int{0, 1, 7, 8, 31, 32, 33, 62, 63} {
		add(func(d *api.Datum) { d.Int ^= 1 << bit })
		add(func(d *api.Datum) { d.Bits ^= 1 << bit })
	}
	add(func(d *api.Datum) { d.Bytes = append(d.Bytes, 0) })
	add(func(d *api.Datum) { d.Bytes = append(d.Bytes, "ab"...) })
	add(func(d *api.Datum) { d.Bytes = append([]byte{0}, d.Bytes...) })
	add(func(d *api.Datum) { d.Keys = append(d.Keys, "") })
	add(func(d *api.Datum) { d.Keys = append([]string{"\xff"}, d.Keys...) })
	add(func(d *api.Datum) { d.List = append(d.List, api.Datum{}) })
	add(func(d *api.Datum) { d.List = append([]api.Datum{{Kind: -3}}, d.List...) })
	for i := range d.Bytes {
		add(func(d *api.Datum) { d.Bytes[i] ^= 0x20 })
		add(func(d *api.Datum) { d.Bytes[i] ^= 1 })
	}
	if many := len(d.Bytes); many > 0 {
		add(func(d *api.Datum) { d.Bytes = d.Bytes[1:] })
		add(func(d *api.Datum) { d.Bytes = d.Bytes[:many-1] })
	}
	for i := range d.Keys {
		add(func(d *api.Datum) { d.Keys[i] += "\x00" })
		add(func(d *api.Datum) { d.Keys[i] = "x" + d.Keys[i] })
		add(func(d *api.Datum) { d.Keys = append(d.Keys[:i], d.Keys[i+1:]...) })
	}
	for i := range d.List {
		add(func(d *api.Datum) { d.List = append(d.List[:i], d.List[i+1:]...) })
		add(func(d *api.Datum) { d.List[i].Kind-- })
		add(func(d *api.Datum) { d.List[i].Bool = !d.List[i].Bool })
		add(func(d *api.Datum) { d.List[i].Int-- })
		add(func(d *api.Datum) { d.List[i].Bits++ })
		add(func(d *api.Datum) { d.List[i].Bytes = append(d.List[i].Bytes, 0) })
		add(func(d *api.Datum) { d.List[i].Keys = append(d.List[i].Keys, "") })
		add(func(d *api.Datum) { d.List[i].List = append(d.List[i].List, api.Datum{}) })
	}
	return l
}

// copied is a value in memory of its own.
func copied(d api.Datum) api.Datum {
	c := d
	c.Bytes, c.Keys, c.List = append([]byte(nil), d.Bytes...), append([]string(nil), d.Keys...), nil
	for _, v := range d.List {
		c.List = append(c.List, copied(v))
	}
	return c
}

// TestSame: P11.3: two values are the same if all their fields are, whether they fit anything or not.
func TestSame(t *testing.T) {
	all := []api.Datum{
		{Kind: -5, Bool: true, Int: -1, Bits: math.MaxUint64, Bytes: []byte("\xff\x00a"), Keys: []string{"b", "a", "b", "\xff"}, List: []api.Datum{{Int: 5}, {}, {Kind: 99, Bytes: []byte("x")}}},
		{Kind: 13, Int: 1, Bytes: []byte("A"), Keys: []string{""}, List: []api.Datum{list(list(dicted("a", text("b"))), null())}},
		dicted("a", short(1), "b", long(1)),
		dicted("b", long(1), "a", short(1)),
		list(dicted("a", short(1), "b", long(1))),
		list(dicted("b", long(1), "a", short(1))),
		list(null(), null()),
		list(list(null(), null())),
		list(short(1), short(2)),
		list(short(2), short(1)),
		list(list(short(1)), list(short(2))),
		list(list(short(1), short(2))),
		list(list(), list(short(1), short(2))),
		fields(null(), null()),
		text("a"), text("AB"), text("ba"), text("\u00e9"), text("e\u0301"),
		{Kind: api.AvroBytes, Keys: []string{"ab"}}, {Kind: api.AvroMap, Keys: []string{"a", "b"}}, {Kind: api.AvroMap, Keys: []string{"ab", ""}}, {Kind: api.AvroMap, Keys: []string{"", "ab"}},
	}
	for _, l := range eachKind() {
		all = append(all, l...)
	}
	for i, a := range all {
		for j, b := range all {
			isSame(t, a, copied(b), i == j)
			if same(a, b) != (i == j) {
				t.Errorf("the tests' model: %s, %s", show(a), show(b))
			}
		}
		for _, b := range differing(a) {
			isSame(t, a, b, false)
			isSame(t, list(null(), dicted("a", branch(1, a)), null()), list(null(), dicted("a", branch(1, b)), null()), false)
		}
		isSame(t, list(null(), dicted("a", branch(1, a))), list(null(), dicted("a", branch(1, copied(a)))), true)
	}
}

// TestSameEmpty: P11.3: nil and empty mean the same, also inside; zero and not there do not.
func TestSameEmpty(t *testing.T) {
	empty := api.Datum{Bytes: []byte{}, Keys: []string{}, List: []api.Datum{}}
	isSame(t, api.Datum{}, empty, true)
	isSame(t, list(api.Datum{}, fields(api.Datum{})), list(empty, fields(empty)), true)
	isSame(t, api.Datum{Bytes: make([]byte, 0, 5)}, api.Datum{Bytes: []byte("a")[:0]}, true)
	isSame(t, api.Datum{Bytes: []byte{0}}, empty, false)
	isSame(t, api.Datum{Keys: []string{""}}, empty, false)
	isSame(t, api.Datum{List: []api.Datum{{}}}, empty, false)
	// What stands in the room behind does not count.
	isSame(t, text("abc"), api.Datum{Kind: api.AvroText, Bytes: []byte("abcd")[:3]}, true)
}

// TestSameBits: P11.3: floats are the same bit by bit, whatever number they are.
func TestSameBits(t *testing.T) {
	for _, l := range [][]uint64{
		{0, 1 << 63, 1 << 31}, // 0, -0
		{0x7ff8000000000000, 0x7ff8000000000001, 0xfff8000000000000, 0x7ff0000000000001}, // no numbers
		{0x7fc00000, 0x7fc00001, 0xffc00000, 0x7f800001},
		{0x3ff0000000000000, 0x3f800000, 1}, // 1, of 64 and 32 bits
		{math.MaxUint64, math.MaxUint32, math.MaxUint64 - 1},
	} {
		for i, a := range l {
			for j, b := range l {
				isSame(t, double(a), double(b), i == j)
				isSame(t, float(a), float(b), i == j)
				isSame(t, double(a), float(b), false)
				isSame(t, list(double(a)), list(double(b)), i == j)
			}
			for _, s := range []api.Avro{made(`"float"`), made(`"double"`)} {
				d := api.Datum{Kind: s.Nodes[0].Kind, Bits: a}
				b, e := avrocodec.Encode(s, d)
				back, f := avrocodec.Decode(s, b)
				if fits(s, 0, d) && (e != api.OK || f != api.OK || back.Bits != a || !avrocodec.Same(back, d)) {
					t.Errorf("P11.4: %x: %d, %v, %d, %x", a, e, b, f, back.Bits)
				}
			}
		}
	}
}

// TestSameGreat: P11.3: values may be as deep and as many as may be handed in.
func TestSameGreat(t *testing.T) {
	deep := func(n int64) api.Datum {
		d := short(n)
		for range 60_000 {
			d = list(d)
		}
		return d
	}
	isSame(t, deep(1), deep(1), true)
	isSame(t, deep(1), deep(2), false)
	isSame(t, deep(1), list(deep(1)), false)
	wide := func(n int64) api.Datum {
		d := list(make([]api.Datum, 300_000)...)
		d.List[299_999] = short(n)
		return d
	}
	isSame(t, wide(1), wide(1), true)
	isSame(t, wide(1), wide(2), false)
	isSame(t, text(strings.Repeat("a", 1<<21)), text(strings.Repeat("a", 1<<21-1)+"b"), false)
	isSame(t, text(strings.Repeat("a", 1<<21)), text(strings.Repeat("a", 1<<21)), true)
}

// TestZig: P11.3, P11.4: zigzag numbers, at both ends, and back.
func TestZig(t *testing.T) {
	for n, z := range map[int64]uint64{
		0: 0, -1: 1, 1: 2, -2: 3, 2: 4, 63: 126, -64: 127, 64: 128,
		math.MaxInt32: math.MaxUint32 - 1, math.MinInt32: math.MaxUint32, math.MaxInt32 + 1: 1 << 32, math.MinInt32 - 1: 1<<32 + 1,
		1 << 62: 1 << 63, 1<<62 - 1: 1<<63 - 2, -1 << 62: 1<<63 - 1, -1<<62 - 1: 1<<63 + 1,
		math.MaxInt64: math.MaxUint64 - 1, math.MinInt64: math.MaxUint64, math.MaxInt64 - 1: math.MaxUint64 - 3, math.MinInt64 + 1: math.MaxUint64 - 2,
	} {
		if got := avrocodec.Zig(n); got != z {
			t.Errorf("P11.3: Zig of %d: %d, not %d", n, got, z)
		}
		if got := avrocodec.Zag(z); got != n {
			t.Errorf("P11.3: Zag of %d: %d, not %d", z, got, n)
		}
	}
	next := numbers(1)
	for i := range 100_000 {
		z := uint64(next(1<<31))<<40 ^ uint64(next(1<<31))<<20 ^ uint64(next(1<<31))
		z >>= i % 64
		n := int64(z / 2)
		if z%2 == 1 {
			n = -n - 1
		}
		if avrocodec.Zig(n) != z || avrocodec.Zag(z) != n {
			t.Fatalf("P11.3: %d, %d: %d, %d", n, z, avrocodec.Zig(n), avrocodec.Zag(z))
		}
		if avrocodec.Zag(avrocodec.Zig(int64(z))) != int64(z) || avrocodec.Zig(avrocodec.Zag(z)) != z {
			t.Fatalf("P11.4: %d", z)
		}
	}
}
