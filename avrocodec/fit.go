package avrocodec

import (
	"math"

	"lexicon/api"
)

// fit gives up, if what a value has does not fit.
func fit(does bool) {
	if !does {
		panic(api.ErrDatum)
	}
}

// isBounded tells whether a value has no more values in one another, and in all, than may be.
func isBounded(d api.Datum) bool {
	level, many := []api.Datum{d}, 1
levels:
	for range api.MaxDepth {
		var next []api.Datum
		for _, v := range level {
			// Asked ahead of being gone into: a list may stand within itself.
			many += len(v.List)
			if many > api.MaxData {
				break levels
			}
			next = append(next, v.List...)
		}
		if len(next) == 0 {
			return true
		}
		level = next
	}
	return false
}

// isBare tells whether a value has nothing but what its kind names.
func isBare(d api.Datum) bool {
	rest := d
	switch d.Kind {
	case api.AvroBool:
		rest.Bool = false
	case api.AvroInt, api.AvroLong, api.AvroEnum:
		rest.Int = 0
	case api.AvroFloat, api.AvroDouble:
		rest.Bits = 0
	case api.AvroBytes, api.AvroText, api.AvroFixed:
		rest.Bytes = nil
	case api.AvroRecord, api.AvroList:
		rest.List = nil
	case api.AvroMap:
		rest.Keys, rest.List = nil, nil
	case api.AvroUnion:
		rest.Int, rest.List = 0, nil
	}
	return Same(rest, api.Datum{Kind: d.Kind})
}

// isShort tells whether a number is in 32 bits.
func isShort(n int64) bool { return math.MinInt32 <= n && n <= math.MaxInt32 }

// isPlace tells whether a number is the place of one of so many.
func isPlace(n int64, many int) bool { return 0 <= n && n < int64(many) }
