package avrocodec

import (
	"slices"
	"unicode/utf8"

	"lexicon/api"
)

// reader reads values off bytes.
type reader struct {
	nodes []api.AvroNode
	takes [kinds]func(*reader, api.AvroNode) api.Datum
	rest  []byte // what is not read yet
	deep  int    // how many values are being read, in one another
	many  int    // how many values were met
}

// takes tells how values are read, by their kinds.
func takes() [kinds]func(*reader, api.AvroNode) api.Datum {
	return [kinds]func(*reader, api.AvroNode) api.Datum{
		api.AvroNull:   (*reader).null,
		api.AvroBool:   (*reader).boolean,
		api.AvroInt:    (*reader).short,
		api.AvroLong:   (*reader).long,
		api.AvroFloat:  (*reader).float,
		api.AvroDouble: (*reader).double,
		api.AvroBytes:  (*reader).bytes,
		api.AvroText:   (*reader).text,
		api.AvroRecord: (*reader).record,
		api.AvroEnum:   (*reader).enum,
		api.AvroFixed:  (*reader).fixed,
		api.AvroList:   (*reader).list,
		api.AvroMap:    (*reader).dict,
		api.AvroUnion:  (*reader).union,
	}
}

// need gives up, if bytes are not as they must be.
func need(is bool) {
	if !is {
		panic(api.ErrCodec)
	}
}

// value reads a value of a node.
func (r *reader) value(at int) api.Datum {
	n := r.nodes[at]
	r.deep++
	r.many++
	// What has no bytes may lead round, and be as many as it likes.
	need(r.deep <= api.MaxDepth && r.many <= api.MaxData)
	d := r.takes[n.Kind](r, n)
	d.Kind = n.Kind
	r.deep--
	return d
}

func (r *reader) null(api.AvroNode) api.Datum { return api.Datum{} }

func (r *reader) boolean(api.AvroNode) api.Datum {
	c := r.byte()
	need(c <= 1)
	return api.Datum{Bool: c == 1}
}

func (r *reader) short(api.AvroNode) api.Datum {
	n := r.number()
	need(isShort(n))
	return api.Datum{Int: n}
}

func (r *reader) long(api.AvroNode) api.Datum { return api.Datum{Int: r.number()} }

func (r *reader) float(api.AvroNode) api.Datum { return api.Datum{Bits: r.bits(4)} }

func (r *reader) double(api.AvroNode) api.Datum { return api.Datum{Bits: r.bits(8)} }

func (r *reader) bytes(api.AvroNode) api.Datum { return api.Datum{Bytes: r.kept(r.number())} }

func (r *reader) text(api.AvroNode) api.Datum {
	b := r.kept(r.number())
	need(utf8.Valid(b))
	return api.Datum{Bytes: b}
}

func (r *reader) record(n api.AvroNode) api.Datum {
	var d api.Datum
	for _, f := range n.Fields {
		d.List = append(d.List, r.value(f.Type))
	}
	return d
}

func (r *reader) enum(n api.AvroNode) api.Datum { return api.Datum{Int: r.place(len(n.Symbols))} }

func (r *reader) fixed(n api.AvroNode) api.Datum { return api.Datum{Bytes: r.kept(int64(n.Size))} }

func (r *reader) list(n api.AvroNode) api.Datum {
	var d api.Datum
	r.pieces(func() { d.List = append(d.List, r.value(n.Kids[0])) })
	return d
}

func (r *reader) dict(n api.AvroNode) api.Datum {
	var d api.Datum
	met := map[string]struct{}{}
	r.pieces(func() {
		key := string(r.next(r.number()))
		_, there := met[key]
		need(!there && utf8.ValidString(key))
		met[key] = struct{}{}
		d.Keys = append(d.Keys, key)
		d.List = append(d.List, r.value(n.Kids[0]))
	})
	return d
}

func (r *reader) union(n api.AvroNode) api.Datum {
	at := r.place(len(n.Kids))
	return api.Datum{Int: at, List: []api.Datum{r.value(n.Kids[at])}}
}

// pieces reads the values of all of a list's or a map's pieces, each by one, which gives up at last if there are too many.
func (r *reader) pieces(one func()) {
	for many := r.number(); many != 0; many = r.number() {
		if many > 0 {
			r.piece(uint64(many), one)
			continue
		}
		size := r.number()
		from := len(r.rest)
		r.piece(-uint64(many), one) // the least number has no other one of its own
		need(int64(from-len(r.rest)) == size)
	}
}

// piece reads so many values, each by one.
func (r *reader) piece(many uint64, one func()) {
	for range many {
		one()
	}
}

// place reads the place of one of so many.
func (r *reader) place(many int) int64 {
	n := r.number()
	need(isPlace(n, many))
	return n
}

// number reads a zigzag number.
func (r *reader) number() int64 {
	var n uint64
	for shift := 0; ; shift += 7 {
		c := r.byte()
		need(shift < 63 || c <= 1) // the tenth byte is the last one, and the last bit's
		n |= uint64(c&127) << shift
		if c < 128 {
			return Zag(n)
		}
	}
}

// bits reads bits of so many bytes.
func (r *reader) bits(many int64) uint64 {
	var n uint64
	for _, c := range slices.Backward(r.next(many)) {
		n <<= 8
		n |= uint64(c)
	}
	return n
}

// byte reads a byte.
func (r *reader) byte() byte { return r.next(1)[0] }

// kept reads so many bytes into memory of their own.
func (r *reader) kept(many int64) []byte { return append([]byte(nil), r.next(many)...) }

// next reads so many bytes, which stay where they are.
func (r *reader) next(many int64) []byte {
	need(0 <= many && many <= int64(len(r.rest)))
	b := r.rest[:many]
	r.rest = r.rest[many:]
	return b
}
