package avroresolve

import (
	"math"
	"slices"
	"unicode/utf8"

	"lexicon/api"
)

// goes tells into which kinds a kind goes.
func goes() map[api.AvroKind][]api.AvroKind {
	return map[api.AvroKind][]api.AvroKind{
		api.AvroInt:   {api.AvroLong, api.AvroFloat, api.AvroDouble},
		api.AvroLong:  {api.AvroFloat, api.AvroDouble},
		api.AvroFloat: {api.AvroDouble},
		api.AvroBytes: {api.AvroText},
		api.AvroText:  {api.AvroBytes},
	}
}

// gone turns a value of a kind into one of another, if it goes into that.
func (t *turner) gone(from, to api.AvroKind, d api.Datum) api.Datum {
	allow(slices.Contains(t.goes[from], to))
	switch to {
	case api.AvroLong:
		return api.Datum{Int: d.Int}
	case api.AvroFloat:
		return api.Datum{Bits: uint64(math.Float32bits(float32(d.Int)))}
	case api.AvroDouble:
		if from == api.AvroFloat {
			return api.Datum{Bits: widened(uint32(d.Bits))}
		}
		return api.Datum{Bits: math.Float64bits(float64(d.Int))}
	case api.AvroText:
		allow(utf8.Valid(d.Bytes))
	}
	return api.Datum{Bytes: kept(t, d.Bytes)}
}

// widened tells the bits of a float of 32 bits as those of the same one of 64.
func widened(bits uint32) uint64 {
	f := float64(math.Float32frombits(bits))
	if !math.IsNaN(f) {
		return math.Float64bits(f)
	}
	// Bit by bit: a machine may set a bit of what is no number when it turns it.
	const exponent, fraction, noughts = 0x7ff << 52, 1<<23 - 1, 52 - 23
	return uint64(bits>>31)<<63 | exponent | uint64(bits&fraction)<<noughts
}
