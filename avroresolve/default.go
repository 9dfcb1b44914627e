package avroresolve

import (
	"math"
	"slices"
	"strconv"

	"lexicon/api"
	"lexicon/jsontext"
)

// standing tells a default that fits the reader's node as a value of it.
func (t *turner) standing(r int, v api.JSON) api.Datum {
	n := t.reader[r]
	return t.made(n.Kind, func() api.Datum {
		var d api.Datum
		switch n.Kind {
		case api.AvroBool:
			d.Bool = v.Bool
		case api.AvroInt, api.AvroLong:
			d.Int, _ = jsontext.Int(v)
		case api.AvroFloat:
			d.Bits = uint64(math.Float32bits(float32(nearest(v, 32))))
		case api.AvroDouble:
			d.Bits = math.Float64bits(nearest(v, 64))
		case api.AvroBytes, api.AvroFixed:
			d.Bytes = t.letters(v.Text)
		case api.AvroText:
			d.Bytes = kept(t, v.Text)
		case api.AvroEnum:
			d.Int = place(n, v.Text)
		case api.AvroRecord:
			for _, f := range n.Fields {
				d.List = append(d.List, t.standing(f.Type, v.List[slices.Index(v.Names, f.Name)]))
			}
		case api.AvroMap:
			d.Keys = t.keys(v.Names)
			fallthrough
		case api.AvroList:
			for _, one := range v.List {
				d.List = append(d.List, t.standing(n.Kids[0], one))
			}
		case api.AvroUnion:
			d.List = append(d.List, t.standing(n.Kids[0], v))
		}
		return d
	})
}

// nearest tells the float of so many bits that is nearest to a number.
func nearest(v api.JSON, bits int) float64 {
	f, _ := strconv.ParseFloat(string(jsontext.Print(v)), bits)
	return f
}
