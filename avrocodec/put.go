package avrocodec

import (
	"math"
	"unicode/utf8"

	"lexicon/api"
)

// writer puts values that fit as bytes.
type writer struct {
	nodes []api.AvroNode
	puts  [kinds]func(*writer, api.AvroNode, api.Datum)
	size  int    // how many bytes were put
	keeps bool   // whether they are kept, or but counted
	out   []byte // those that are kept
}

// puts tells how values are put, by their kinds.
func puts() [kinds]func(*writer, api.AvroNode, api.Datum) {
	return [kinds]func(*writer, api.AvroNode, api.Datum){
		api.AvroNull:   (*writer).null,
		api.AvroBool:   (*writer).boolean,
		api.AvroInt:    (*writer).short,
		api.AvroLong:   (*writer).long,
		api.AvroFloat:  (*writer).float,
		api.AvroDouble: (*writer).double,
		api.AvroBytes:  (*writer).bytes,
		api.AvroText:   (*writer).text,
		api.AvroRecord: (*writer).record,
		api.AvroEnum:   (*writer).enum,
		api.AvroFixed:  (*writer).fixed,
		api.AvroList:   (*writer).list,
		api.AvroMap:    (*writer).dict,
		api.AvroUnion:  (*writer).union,
	}
}

// value puts a value of a node.
func (w *writer) value(at int, d api.Datum) {
	n := w.nodes[at]
	fit(d.Kind == n.Kind && isBare(d))
	w.puts[n.Kind](w, n, d)
}

func (w *writer) null(api.AvroNode, api.Datum) {}

func (w *writer) boolean(_ api.AvroNode, d api.Datum) {
	if d.Bool {
		w.put(1)
	} else {
		w.put(0)
	}
}

func (w *writer) short(_ api.AvroNode, d api.Datum) {
	fit(isShort(d.Int))
	w.number(d.Int)
}

func (w *writer) long(_ api.AvroNode, d api.Datum) { w.number(d.Int) }

func (w *writer) float(_ api.AvroNode, d api.Datum) {
	fit(d.Bits <= math.MaxUint32)
	w.bits(d.Bits, 4)
}

func (w *writer) double(_ api.AvroNode, d api.Datum) { w.bits(d.Bits, 8) }

func (w *writer) bytes(_ api.AvroNode, d api.Datum) { w.counted(d.Bytes) }

func (w *writer) text(_ api.AvroNode, d api.Datum) {
	fit(utf8.Valid(d.Bytes))
	w.counted(d.Bytes)
}

func (w *writer) record(n api.AvroNode, d api.Datum) {
	fit(len(d.List) == len(n.Fields))
	for i, f := range n.Fields {
		w.value(f.Type, d.List[i])
	}
}

func (w *writer) enum(n api.AvroNode, d api.Datum) {
	fit(isPlace(d.Int, len(n.Symbols)))
	w.number(d.Int)
}

func (w *writer) fixed(n api.AvroNode, d api.Datum) {
	fit(len(d.Bytes) == n.Size)
	w.put(d.Bytes...)
}

func (w *writer) list(n api.AvroNode, d api.Datum) {
	w.piece(len(d.List), func(i int) { w.value(n.Kids[0], d.List[i]) })
}

func (w *writer) dict(n api.AvroNode, d api.Datum) {
	fit(len(d.Keys) == len(d.List))
	met := map[string]struct{}{}
	w.piece(len(d.List), func(i int) {
		key := d.Keys[i]
		_, there := met[key]
		fit(!there && utf8.ValidString(key))
		met[key] = struct{}{}
		w.counted([]byte(key))
		w.value(n.Kids[0], d.List[i])
	})
}

func (w *writer) union(n api.AvroNode, d api.Datum) {
	fit(isPlace(d.Int, len(n.Kids)) && len(d.List) == 1)
	w.number(d.Int)
	w.value(n.Kids[d.Int], d.List[0])
}

// piece puts all of a list's or a map's values, each by one.
func (w *writer) piece(many int, one func(i int)) {
	if many > 0 {
		w.number(int64(many))
	}
	for i := range many {
		one(i)
	}
	w.number(0)
}

// counted puts how many bytes there are, then they.
func (w *writer) counted(b []byte) {
	w.number(int64(len(b)))
	w.put(b...)
}

// number puts a zigzag number.
func (w *writer) number(n int64) {
	left := Zig(n)
	for left >= 128 {
		w.put(byte(left) | 128)
		left >>= 7
	}
	w.put(byte(left))
}

// bits puts bits as so many bytes.
func (w *writer) bits(left uint64, many int) {
	for range many {
		w.put(byte(left))
		left >>= 8
	}
}

// put puts bytes.
func (w *writer) put(b ...byte) {
	w.size += len(b)
	if w.keeps {
		w.out = append(w.out, b...)
	}
}
