package avroresolve_test

import (
	"math"
	"math/big"
	"strings"
	"testing"

	"lexicon/api"
)

// numbers tells pseudo-random numbers from 0 to n - 1.
func numbers(seed uint64) func(n int) int {
	return func(n int) int {
		seed = seed*6364136223846793005 + 1442695040888963407
		return int(seed >> 33 % uint64(n))
	}
}

// wholes are whole numbers at and beside the ends, the powers of two, and what lies between two floats.
func wholes() []int64 {
	l := []int64{0, math.MaxInt64, math.MinInt64, math.MaxInt64 - 1, math.MinInt64 + 1, math.MaxInt32, math.MinInt32}
	for bit := range 63 {
		for by := int64(-3); by <= 3; by++ {
			l = append(l, 1<<bit+by, -1<<bit+by)
		}
		// Half a step of a float of 24, of 53 bits above a power, and three halves, with a little less and more.
		for _, step := range []int{bit - 24, bit - 53} {
			if step < 0 {
				continue
			}
			for _, half := range []int64{1, 3, 5} {
				for by := int64(-1); by <= 1; by++ {
					l = append(l, 1<<bit+half<<step+by, -1<<bit-half<<step+by)
				}
			}
		}
	}
	return l
}

// TestWholesAsFloats: P12.1: a whole number becomes the nearest float of that width, to even of two.
func TestWholesAsFloats(t *testing.T) {
	ints, longs, floats, doubles := made(`"int"`), made(`"long"`), made(`"float"`), made(`"double"`)
	next := numbers(1)
	l := wholes()
	for i := range 2000 {
		n := int64(uint64(next(1<<31))<<33 ^ uint64(next(1<<31))<<10 ^ uint64(next(1<<31)))
		l = append(l, n>>(i%64))
	}
	for _, n := range l {
		exact := new(big.Float).SetInt64(n)
		f, _ := new(big.Float).SetPrec(24).SetMode(big.ToNearestEven).Set(exact).Float32()
		g, _ := new(big.Float).SetPrec(53).SetMode(big.ToNearestEven).Set(exact).Float64()
		turns(t, longs, floats, long(n), float(bits32(f)))
		turns(t, longs, doubles, long(n), double(bits64(g)))
		turns(t, longs, longs, long(n), long(n))
		if n == int64(int32(n)) {
			turns(t, ints, longs, short(n), long(n))
			turns(t, ints, floats, short(n), float(bits32(f)))
			turns(t, ints, doubles, short(n), double(bits64(g)))
			turns(t, ints, ints, short(n), short(n))
		}
	}
}

// TestRounds: P12.1: floats by their bits, of numbers that lie half way, and beside that.
func TestRounds(t *testing.T) {
	for n, b := range map[int64]uint64{
		0: 0, 1: 0x3f800000, -1: 0xbf800000, 1<<24 - 1: 0x4b7fffff, 1 << 24: 0x4b800000,
		1<<24 + 1: 0x4b800000, 1<<24 + 2: 0x4b800001, 1<<24 + 3: 0x4b800002, 1<<24 + 5: 0x4b800002, -1<<24 - 1: 0xcb800000, -1<<24 - 3: 0xcb800002,
		1<<25 + 2: 0x4c000000, 1<<25 + 3: 0x4c000001, 1<<25 + 6: 0x4c000002, 1<<25 - 1: 0x4c000000, 1<<25 - 2: 0x4bffffff,
		math.MaxInt32: 0x4f000000, math.MinInt32: 0xcf000000, math.MaxInt32 - 63: 0x4f000000, math.MaxInt32 - 64: 0x4effffff, math.MaxInt32 - 127: 0x4effffff,
	} {
		turnsEverywhere(t, `"int"`, `"float"`, short(n), float(b))
		turnsEverywhere(t, `"long"`, `"float"`, long(n), float(b))
	}
	for n, b := range map[int64]uint64{
		math.MaxInt64: 0x5f000000, math.MinInt64: 0xdf000000,
		// By way of 64 bits these would be rounded twice.
		1<<60 + 1<<36 + 1: 0x5d800001, 1<<60 + 1<<36: 0x5d800000, 1<<60 + 1<<36 - 1: 0x5d800000, -1<<60 - 1<<36 - 1: 0xdd800001,
		1<<60 + 3<<36 - 1: 0x5d800001, 1<<60 + 3<<36: 0x5d800002, 1<<62 + 1<<38 + 1: 0x5e800001, 1<<62 + 1<<38 - 1: 0x5e800000,
	} {
		turnsEverywhere(t, `"long"`, `"float"`, long(n), float(b))
	}
	for n, b := range map[int64]uint64{
		0: 0, 1: 0x3ff0000000000000, -1: 0xbff0000000000000, 1<<53 - 1: 0x433fffffffffffff, 1 << 53: 0x4340000000000000,
		1<<53 + 1: 0x4340000000000000, 1<<53 + 2: 0x4340000000000001, 1<<53 + 3: 0x4340000000000002, -1<<53 - 1: 0xc340000000000000, -1<<53 - 3: 0xc340000000000002,
		math.MaxInt32: 0x41dfffffffc00000, math.MinInt32: 0xc1e0000000000000, math.MaxInt64: 0x43e0000000000000, math.MinInt64: 0xc3e0000000000000,
		math.MaxInt64 - 511: 0x43e0000000000000, math.MaxInt64 - 512: 0x43dfffffffffffff, math.MaxInt64 - 1023: 0x43dfffffffffffff,
	} {
		turnsEverywhere(t, `"long"`, `"double"`, long(n), double(b))
		if n == int64(int32(n)) {
			turnsEverywhere(t, `"int"`, `"double"`, short(n), double(b))
		}
	}
}

// TestFloatsAsDoubles: P12.1: a float of 32 bits becomes the same one of 64: noughts, the least ones, those without end, and what is no number, bit by bit.
func TestFloatsAsDoubles(t *testing.T) {
	for b, want := range map[uint64]uint64{
		0: 0, 0x80000000: 1 << 63,
		0x3f800000: 0x3ff0000000000000, 0xbf800000: 0xbff0000000000000, 0x3dcccccd: 0x3fb99999a0000000,
		1: 0x36a0000000000000, 0x80000001: 0xb6a0000000000000, 2: 0x36b0000000000000, 3: 0x36b8000000000000, 0x007fffff: 0x380fffffc0000000, 0x807fffff: 0xb80fffffc0000000,
		0x00400000: 0x3800000000000000, 0x00800000: 0x3810000000000000, 0x00800001: 0x3810000020000000, 0x80800000: 0xb810000000000000,
		0x7f7fffff: 0x47efffffe0000000, 0xff7fffff: 0xc7efffffe0000000,
		0x7f800000: 0x7ff0000000000000, 0xff800000: 0xfff0000000000000,
		0x7f800001: 0x7ff0000020000000, 0xff800001: 0xfff0000020000000, 0x7fbfffff: 0x7ff7ffffe0000000, 0xffbfffff: 0xfff7ffffe0000000,
		0x7fc00000: 0x7ff8000000000000, 0xffc00000: 0xfff8000000000000, 0x7fc00001: 0x7ff8000020000000, 0xffc00001: 0xfff8000020000000,
		0x7fffffff: 0x7fffffffe0000000, 0xffffffff: 0xffffffffe0000000, 0x7fa00000: 0x7ff4000000000000, 0xff812345: 0xfff02468a0000000,
	} {
		turnsEverywhere(t, `"float"`, `"double"`, float(b), double(want))
		turnsEverywhere(t, `"float"`, `"float"`, float(b), float(b))
	}
	w, r := made(`"float"`), made(`"double"`)
	next := numbers(2)
	for i := range 20_000 {
		b := uint64(next(1<<31))<<1 ^ uint64(next(1<<31))
		b &= math.MaxUint32
		switch i % 8 {
		case 0:
			b |= 0x7f800000
		case 1:
			b &^= 0x7f800000
		case 2:
			b &^= 0x7f800000 | 1<<(i/8%24) - 1
		case 3:
			b = b&0x80000000 | 0x7f800000 | 1<<(i/8%23)
		case 4:
			b = b&0x80000000 | 1<<(i/8%23)
		}
		turns(t, w, r, float(b), double(wide(uint32(b))))
		if f := math.Float32frombits(uint32(b)); f == f && wide(uint32(b)) != bits64(float64(f)) {
			t.Errorf("the tests' model: %x", b)
		}
	}
}

// TestAsItWas: P12.1: a plain value is the same in a node of its kind, bit by bit.
func TestAsItWas(t *testing.T) {
	for _, d := range []api.Datum{
		null(), boolean(true), boolean(false), short(0), short(math.MaxInt32), short(math.MinInt32), long(math.MaxInt64), long(math.MinInt64),
		float(0), float(0x80000000), float(0x7f800001), float(math.MaxUint32), double(0), double(1 << 63), double(0x7ff0000000000001), double(math.MaxUint64), double(1),
		binary(""), binary("\x00\xff\x80"), text(""), text("a\x00\u00e9\u20ac\U0001f600"), text(strings.Repeat("\u00e9", 1000)),
	} {
		of := kinds()[d.Kind].of
		turnsEverywhere(t, of, of, d, d)
	}
}

// ill are bytes that are no UTF-8.
func ill() []string {
	return []string{"\xff", "\x80", "a\xc3", "\xc3", "\xe2\x82", "\xed\xa0\x80", "\xed\xbf\xbf", "\xf4\x90\x80\x80", "\xc0\x80", "\xc1\xbf", "\xe0\x80\x80", "\xf0\x80\x80\x80", "\xf8\x88\x80\x80\x80", "ab\xfe", "\u00e9\xe9", strings.Repeat("a", 100) + "\xff" + strings.Repeat("a", 100)}
}

// TestBytesAsTexts: P12.1: bytes become a string if they are UTF-8, a string's bytes are bytes.
func TestBytesAsTexts(t *testing.T) {
	for _, b := range ill() {
		refusesEverywhere(t, `"bytes"`, `"string"`, binary(b))
		turnsEverywhere(t, `"bytes"`, `"bytes"`, binary(b), binary(b))
		// A branch that the value does not go into is not passed over for another one.
		refuses(t, made(`"bytes"`), made(union(`"string"`, fixed("F", len(b)), `"null"`)), binary(b))
		turns(t, made(`"bytes"`), made(union(`"string"`, `"bytes"`)), binary(b), branch(1, binary(b)))
	}
	for _, b := range []string{"", "a", "\x00", "\x7f", "\u00e9", "\ud7ff\ue000", "\U0010ffff", "\ufffd", "\u0080\u07ff\u0800\uffff", strings.Repeat("\u20ac", 500)} {
		turnsEverywhere(t, `"bytes"`, `"string"`, binary(b), text(b))
		turnsEverywhere(t, `"string"`, `"bytes"`, text(b), binary(b))
	}
	// One of many that is no UTF-8.
	refuses(t, made(array(`"bytes"`)), made(array(`"string"`)), list(binary("a"), binary("\xff"), binary("b")))
	refuses(t, made(dict(`"bytes"`)), made(dict(`"string"`)), dicted("a", binary("a"), "b", binary("\xff")))
	turns(t, made(array(`"bytes"`)), made(array(`"string"`)), list(binary("a"), binary(""), binary("b")), list(text("a"), text(""), text("b")))
}
