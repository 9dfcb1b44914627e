package avrocodec_test

import (
	"math/big"
	"strings"
	"unicode/utf8"

	"lexicon/api"
)

// same tells whether two values are the same, nil and empty meaning one thing.
func same(a, b api.Datum) bool {
	if a.Kind != b.Kind || a.Bool != b.Bool || a.Int != b.Int || a.Bits != b.Bits || string(a.Bytes) != string(b.Bytes) || len(a.Keys) != len(b.Keys) || len(a.List) != len(b.List) {
		return false
	}
	for i := range a.Keys {
		if a.Keys[i] != b.Keys[i] {
			return false
		}
	}
	for i := range a.List {
		if !same(a.List[i], b.List[i]) {
			return false
		}
	}
	return true
}

// nested is how many values of a value are nested in one another; it looks no deeper than 70.
func nested(d api.Datum, left int) int {
	deepest := 0
	for _, v := range d.List {
		if left > 0 {
			deepest = max(deepest, nested(v, left-1))
		}
	}
	return deepest + 1
}

// total is how many values a value has in all.
func total(d api.Datum) int {
	n := 1
	for _, v := range d.List {
		n += total(v)
	}
	return n
}

// fits tells whether a value fits a node, by the chapter's words.
func fits(s api.Avro, at int, d api.Datum) bool {
	return nested(d, 70) <= 64 && total(d) <= 65536 && fitsNode(s, at, d)
}

// uses are the fields that a kind's values use.
func uses(k api.AvroKind) string {
	return [14]string{"", "Bool", "Int", "Int", "Bits", "Bits", "Bytes", "Bytes", "List", "Int", "Bytes", "List", "Keys List", "Int List"}[k]
}

// fitsNode tells whether a value fits a node, its bounds not counted.
func fitsNode(s api.Avro, at int, d api.Datum) bool {
	n := s.Nodes[at]
	if d.Kind != n.Kind {
		return false
	}
	for i, is := range [6]bool{d.Bool, d.Int != 0, d.Bits != 0, len(d.Bytes) > 0, len(d.Keys) > 0, len(d.List) > 0} {
		if is && !strings.Contains(uses(d.Kind), [6]string{"Bool", "Int", "Bits", "Bytes", "Keys", "List"}[i]) {
			return false
		}
	}
	all := func(kid int) bool {
		for _, v := range d.List {
			if !fitsNode(s, kid, v) {
				return false
			}
		}
		return true
	}
	switch n.Kind {
	case api.AvroInt:
		return d.Int >= -2147483648 && d.Int <= 2147483647
	case api.AvroFloat:
		return d.Bits>>32 == 0
	case api.AvroText:
		return utf8.Valid(d.Bytes)
	case api.AvroRecord:
		if len(d.List) != len(n.Fields) {
			return false
		}
		for i, f := range n.Fields {
			if !fitsNode(s, f.Type, d.List[i]) {
				return false
			}
		}
	case api.AvroEnum:
		return d.Int >= 0 && d.Int < int64(len(n.Symbols))
	case api.AvroFixed:
		return len(d.Bytes) == n.Size
	case api.AvroList:
		return all(n.Kids[0])
	case api.AvroMap:
		keys := map[string]bool{}
		for _, key := range d.Keys {
			if keys[key] || !utf8.ValidString(key) {
				return false
			}
			keys[key] = true
		}
		return len(d.Keys) == len(d.List) && all(n.Kids[0])
	case api.AvroUnion:
		return d.Int >= 0 && d.Int < int64(len(n.Kids)) && len(d.List) == 1 && all(n.Kids[d.Int])
	}
	return true
}

// zigzag is a zigzag number's bytes: of a number of whatever size, with at least so many bytes.
func zigzag(n *big.Int, least int) []byte {
	z := new(big.Int).Lsh(n, 1)
	if n.Sign() < 0 {
		z.Add(z, big.NewInt(1)).Neg(z)
	}
	var b []byte
	for len(b) == 0 || z.Sign() > 0 || len(b) < least {
		rest := new(big.Int)
		z.DivMod(z, big.NewInt(128), rest)
		b = append(b, byte(rest.Int64())|128)
	}
	b[len(b)-1] -= 128
	return b
}

// number is a zigzag number's bytes.
func number(n int64) []byte { return zigzag(big.NewInt(n), 1) }

// coder tells a value's bytes; as short as goes, or as it is told to.
type coder struct {
	s      api.Avro
	many   func(n int64) []byte               // a number's bytes
	pieces func(values [][]byte) (all []byte) // those of a list, a map
}

// plain is how values are told as short as goes.
func plain(s api.Avro) coder {
	return coder{s, number, func(values [][]byte) []byte {
		var b []byte
		if len(values) > 0 {
			b = number(int64(len(values)))
		}
		for _, v := range values {
			b = append(b, v...)
		}
		return append(b, 0)
	}}
}

// value is a value's bytes; it fits the node.
func (c coder) value(at int, d api.Datum) []byte {
	n := c.s.Nodes[at]
	var b []byte
	switch n.Kind {
	case api.AvroBool:
		b = []byte{0}
		if d.Bool {
			b[0] = 1
		}
	case api.AvroInt, api.AvroLong, api.AvroEnum:
		b = c.many(d.Int)
	case api.AvroFloat:
		b = lowest(d.Bits, 4)
	case api.AvroDouble:
		b = lowest(d.Bits, 8)
	case api.AvroBytes, api.AvroText:
		b = append(c.many(int64(len(d.Bytes))), d.Bytes...)
	case api.AvroRecord:
		for i, f := range n.Fields {
			b = append(b, c.value(f.Type, d.List[i])...)
		}
	case api.AvroFixed:
		b = append(b, d.Bytes...)
	case api.AvroList, api.AvroMap:
		var values [][]byte
		for i, v := range d.List {
			var one []byte
			if n.Kind == api.AvroMap {
				one = append(c.many(int64(len(d.Keys[i]))), d.Keys[i]...)
			}
			values = append(values, append(one, c.value(n.Kids[0], v)...))
		}
		b = c.pieces(values)
	case api.AvroUnion:
		b = append(c.many(d.Int), c.value(n.Kids[d.Int], d.List[0])...)
	}
	return b
}

// lowest are a number's lowest bytes.
func lowest(n uint64, many int) []byte {
	b := make([]byte, many)
	for i := range b {
		b[i] = byte(n >> (8 * i))
	}
	return b
}

// bytesOf are the bytes of a value that fits a node, by the chapter's words.
func bytesOf(s api.Avro, at int, d api.Datum) []byte { return plain(s).value(at, d) }

// taker reads a value by the chapter's words.
type taker struct {
	s    api.Avro
	left int // how many values may still come
}

// taken is the value of a node at the beginning of bytes, how many bytes it has, and whether there is one.
func taken(s api.Avro, at int, b []byte) (api.Datum, int, bool) {
	m := &taker{s, 65536}
	d, rest, ok := m.value(at, 64, b)
	if !ok {
		return api.Datum{}, 0, false
	}
	return d, len(b) - len(rest), true
}

// count reads a zigzag number of 64 bits.
func (m *taker) count(b []byte) (int64, []byte, bool) {
	z := new(big.Int)
	for i, c := range b {
		if i == 10 {
			return 0, nil, false
		}
		z.Add(z, new(big.Int).Lsh(big.NewInt(int64(c%128)), uint(7*i)))
		if c < 128 {
			n := new(big.Int).Rsh(z, 1)
			if z.Bit(0) == 1 {
				n.Add(n, big.NewInt(1)).Neg(n)
			}
			return n.Int64(), b[i+1:], z.BitLen() <= 64
		}
	}
	return 0, nil, false
}

// some reads as many bytes as a number ahead of them tells.
func (m *taker) some(b []byte) ([]byte, []byte, bool) {
	n, b, ok := m.count(b)
	if !ok || n < 0 || n > int64(len(b)) {
		return nil, nil, false
	}
	return b[:n], b[n:], true
}

// value reads a value of a node, in which so many more may be nested in one another.
func (m *taker) value(at, deep int, b []byte) (api.Datum, []byte, bool) {
	n := m.s.Nodes[at]
	d, ok := api.Datum{Kind: n.Kind}, true
	m.left--
	if deep == 0 || m.left < 0 {
		return d, nil, false
	}
	size := [14]int{api.AvroBool: 1, api.AvroFloat: 4, api.AvroDouble: 8, api.AvroFixed: n.Size}[n.Kind]
	if len(b) < size {
		return d, nil, false
	}
	switch n.Kind {
	case api.AvroBool:
		d.Bool, ok = b[0] == 1, b[0] < 2
		b = b[1:]
	case api.AvroInt, api.AvroLong, api.AvroEnum:
		d.Int, b, ok = m.count(b)
		ok = ok && fitsNode(m.s, at, d)
	case api.AvroFloat, api.AvroDouble:
		for i, c := range b[:size] {
			d.Bits += uint64(c) << (8 * i)
		}
		b = b[size:]
	case api.AvroBytes, api.AvroText:
		d.Bytes, b, ok = m.some(b)
		ok = ok && fitsNode(m.s, at, d)
	case api.AvroFixed:
		d.Bytes, b = b[:size], b[size:]
	case api.AvroRecord:
		for _, f := range n.Fields {
			var v api.Datum
			if v, b, ok = m.value(f.Type, deep-1, b); !ok {
				return d, nil, false
			}
			d.List = append(d.List, v)
		}
	case api.AvroList, api.AvroMap:
		return m.pieces(d, n, deep, b)
	case api.AvroUnion:
		if d.Int, b, ok = m.count(b); !ok || d.Int < 0 || d.Int >= int64(len(n.Kids)) {
			return d, nil, false
		}
		d.List = make([]api.Datum, 1)
		d.List[0], b, ok = m.value(n.Kids[d.Int], deep-1, b)
	}
	return d, b, ok
}

// pieces reads those of a list, of a map.
func (m *taker) pieces(d api.Datum, n api.AvroNode, deep int, b []byte) (api.Datum, []byte, bool) {
	keys := map[string]bool{}
	for {
		many, rest, ok := m.count(b)
		if b = rest; !ok || many == 0 {
			return d, b, ok
		}
		var want int64
		isBelow := many < 0
		if isBelow {
			if want, b, ok = m.count(b); !ok {
				return d, nil, false
			}
			many = -many
		}
		from := len(b)
		// The least number is still below 0; all that are too many need not be told apart.
		if many < 0 {
			many = 1 << 62
		}
		for ; many > 0; many-- {
			var key []byte
			if n.Kind == api.AvroMap {
				if key, b, ok = m.some(b); !ok || keys[string(key)] || !utf8.Valid(key) {
					return d, nil, false
				}
				keys[string(key)] = true
				d.Keys = append(d.Keys, string(key))
			}
			var v api.Datum
			if v, b, ok = m.value(n.Kids[0], deep-1, b); !ok {
				return d, nil, false
			}
			d.List = append(d.List, v)
		}
		if isBelow && want != int64(from-len(b)) {
			return d, nil, false
		}
	}
}
