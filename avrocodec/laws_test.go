package avrocodec_test

import (
	"bytes"
	"fmt"
	"math"
	"math/big"
	"slices"
	"strings"
	"testing"

	"lexicon/api"
	"lexicon/avro"
	"lexicon/avrocodec"
)

// numbers tells pseudo-random numbers from 0 to n - 1.
func numbers(seed uint64) func(n int) int {
	return func(n int) int {
		seed = seed*6364136223846793005 + 1442695040888963407
		return int(seed >> 33 % uint64(n))
	}
}

// maker makes schemas, values and bytes of no plain order.
type maker struct {
	next func(n int) int
	s    api.Avro
}

// once tells whether it is time for what comes once in n times.
func (g *maker) once(n int) bool { return g.next(n) == 0 }

// pick is one of some texts.
func (g *maker) pick(l ...string) string { return l[g.next(len(l))] }

// schema is the number of a node.
func (g *maker) schema(depth int) int {
	if l := g.named(); len(l) > 0 && g.once(4) {
		return l[g.next(len(l))]
	}
	if depth <= 0 || len(g.s.Nodes) > 40 || g.once(3) {
		return g.kind(api.AvroKind(g.next(8)), depth)
	}
	return g.kind(api.AvroKind(8+g.next(6)), depth)
}

// named are the numbers of the named nodes that are there.
func (g *maker) named() []int {
	var l []int
	for at, n := range g.s.Nodes {
		if n.Name != "" {
			l = append(l, at)
		}
	}
	return l
}

// kind is the number of a new node of a kind.
func (g *maker) kind(kind api.AvroKind, depth int) int {
	at := len(g.s.Nodes)
	n := api.AvroNode{Kind: kind}
	if kind == api.AvroRecord || kind == api.AvroEnum || kind == api.AvroFixed {
		n.Name = fmt.Sprint(g.pick("a.", "a.b.", "c."), "N", at)
	}
	g.s.Nodes = append(g.s.Nodes, n)
	switch kind {
	case api.AvroRecord:
		for i := range g.next(5) {
			n.Fields = append(n.Fields, api.AvroField{Name: fmt.Sprint("f", i), Type: g.schema(depth - 1)})
		}
	case api.AvroEnum:
		n.Symbols = []string{"B", "A", "_0", "c"}[:g.next(4)+1]
	case api.AvroFixed:
		n.Size = g.next(4)
	case api.AvroList, api.AvroMap:
		n.Kids = []int{g.schema(depth - 1)}
	case api.AvroUnion:
		n.Kids = g.branches(depth)
	}
	g.s.Nodes[at] = n
	return at
}

// branches are those of a union.
func (g *maker) branches(depth int) []int {
	var l []int
	left := []api.AvroKind{0, 1, 2, 3, 4, 5, 6, 7, 8, 8, 9, 9, 10, 10, 11, 12}
	for range g.next(5) + 1 {
		if named := g.named(); len(named) > 0 && g.once(3) {
			if at := named[g.next(len(named))]; !slices.Contains(l, at) {
				l = append(l, at)
				continue
			}
		}
		i := g.next(len(left))
		l = append(l, g.kind(left[i], depth-1))
		left = slices.Delete(left, i, i+1)
	}
	return l
}

// whole is a schema that may be.
func (g *maker) whole(depth int) api.Avro {
	g.s = api.Avro{}
	g.kind(api.AvroKind(g.next(14)), depth)
	return g.s
}

// number is a whole number within so many bits.
func (g *maker) number(bits int) int64 {
	n := int64(uint64(g.next(1<<31))<<33 ^ uint64(g.next(1<<31)))
	return n >> (64 - bits + g.next(bits))
}

// text is a text of some letters.
func (g *maker) text() string {
	var b strings.Builder
	for range g.next(4) {
		b.WriteString(g.pick("a", "b", "\x00", "\u00e9", "\u20ac", "\U0001f600", strings.Repeat("x", 70)))
	}
	return b.String()
}

// fit is a value that fits a node; not, if it finds none that is no deeper.
func (g *maker) fit(at, depth int) (api.Datum, bool) {
	n := g.s.Nodes[at]
	d := api.Datum{Kind: n.Kind}
	if depth == 0 {
		return d, false
	}
	right := true
	put := func(kid int) {
		v, ok := g.fit(kid, depth-1)
		right = right && ok
		d.List = append(d.List, v)
	}
	switch n.Kind {
	case api.AvroBool:
		d.Bool = g.once(2)
	case api.AvroInt:
		d.Int = g.number(32)
	case api.AvroLong:
		d.Int = g.number(64)
	case api.AvroFloat:
		d.Bits = uint64(uint32(g.number(64)))
	case api.AvroDouble:
		d.Bits = uint64(g.number(64))
	case api.AvroBytes:
		d.Bytes = []byte(g.text() + g.pick("", "\xff", "\x80\x81"))
	case api.AvroText:
		d.Bytes = []byte(g.text())
	case api.AvroRecord:
		for _, f := range n.Fields {
			put(f.Type)
		}
	case api.AvroEnum:
		d.Int = int64(g.next(len(n.Symbols)))
	case api.AvroFixed:
		d.Bytes = []byte("a\x00\xff\u00e9")[:n.Size]
	case api.AvroList, api.AvroMap:
		for i := range g.next(5) - 1 {
			if v, ok := g.fit(n.Kids[0], depth-1); ok {
				d.List = append(d.List, v)
				if n.Kind == api.AvroMap {
					d.Keys = append(d.Keys, fmt.Sprint(i)[g.next(2)*(1-min(i, 1)):]+g.text())
				}
			}
		}
	case api.AvroUnion:
		d.Int = int64(g.next(len(n.Kids)))
		put(n.Kids[d.Int])
	}
	return d, right
}

// edit makes one edit to a value, after which it may fit or not.
func (g *maker) edit(d *api.Datum) {
	for len(d.List) > 0 && !g.once(3) {
		d = &d.List[g.next(len(d.List))]
	}
	switch g.next(12) {
	case 0:
		d.Kind = api.AvroKind(g.next(16) - 1)
	case 1:
		d.Bool = !d.Bool
	case 2:
		d.Int += int64(g.next(5) - 2)
	case 3:
		d.Int = []int64{0, -1, math.MaxInt32, math.MaxInt32 + 1, math.MinInt32, math.MinInt32 - 1, math.MaxInt64, math.MinInt64}[g.next(8)]
	case 4:
		d.Bits = []uint64{0, 1, math.MaxUint32, math.MaxUint32 + 1, math.MaxUint64}[g.next(5)]
	case 5:
		d.Bytes = append(d.Bytes, g.pick("a", "\u00e9", "\xff", "\x00")...)
	case 6:
		d.Bytes = d.Bytes[:len(d.Bytes)-min(len(d.Bytes), g.next(2)+1)]
	case 7:
		if len(d.Keys) > 0 {
			d.Keys[g.next(len(d.Keys))] = g.pick("a", "\xff", "\u00e9", d.Keys[0], d.Keys[len(d.Keys)-1])
		}
	case 8:
		d.Keys = append(d.Keys, g.pick("a", "\xff", "new"))
	case 9:
		d.List = append(d.List, api.Datum{Kind: api.AvroKind(g.next(14))})
	case 10:
		if len(d.List) > 0 {
			d.List = append(d.List, copied(d.List[g.next(len(d.List))]))
		}
	case 11:
		d.List = d.List[:len(d.List)-min(len(d.List), 1)]
		if g.once(2) {
			d.Keys = d.Keys[:len(d.Keys)-min(len(d.Keys), 1)]
		}
	}
}

// loose is how values are told in several pieces, by numbers that are not as short as goes.
func (g *maker) loose() coder {
	many := func(n int64) []byte { return zigzag(big.NewInt(n), 1+g.next(10)*g.next(2)) }
	return coder{g.s, many, func(values [][]byte) []byte {
		var b []byte
		for len(values) > 0 {
			n := g.next(len(values)) + 1
			one := slices.Concat(values[:n]...)
			if values = values[n:]; g.once(2) {
				b = join(b, many(int64(-n)), many(int64(len(one))), one)
			} else {
				b = join(b, many(int64(n)), one)
			}
		}
		return append(b, many(0)...)
	}}
}

// spoilt are bytes with an edit.
func (g *maker) spoilt(b []byte) []byte {
	b = slices.Clone(b)
	at := g.next(len(b) + 1)
	switch g.next(6) {
	case 0:
		return b[:at]
	case 1:
		return slices.Insert(b, at, byte(g.next(256)))
	case 2:
		return slices.Insert(b, at, byte(g.next(6)))
	}
	if at < len(b) {
		switch g.next(4) {
		case 0:
			return slices.Delete(b, at, at+1)
		case 1:
			b[at] ^= 1 << g.next(8)
		case 2:
			b[at] += byte(g.next(5) - 2)
		case 3:
			b[at] = byte(g.next(256))
		}
	}
	return b
}

// agrees complains if what Check, Encode and Size tell of a value of the root is not what the chapter's words ask.
func agrees(t *testing.T, s api.Avro, d api.Datum) bool {
	t.Helper()
	is := fits(s, 0, d)
	if is {
		codes(t, s, 0, d, bytesOf(s, 0, d))
	} else {
		refuses(t, s, 0, d)
	}
	return is
}

// reads complains if what Take and Decode tell of bytes is not what the chapter's words ask, or Encode of what they tell is longer.
func reads(t *testing.T, s api.Avro, b []byte) bool {
	t.Helper()
	want, size, ok := taken(s, 0, b)
	if !ok {
		unread(t, s, 0, b)
		return false
	}
	takes(t, s, 0, want, b[:size])
	got, e := avrocodec.Encode(s, want)
	many, f := avrocodec.Size(s, want)
	if e != api.OK || f != api.OK || len(got) > size || many != len(got) || !bytes.Equal(got, bytesOf(s, 0, want)) {
		t.Errorf("P11.4: Encode of what was decoded of %s: %s, %d; Size %d, %d", show(b[:size]), show(got), e, many, f)
	}
	return true
}

// TestLaws: P11.1, P11.2, P11.4: in schemas of no plain order, values that fit have the bytes that the chapter's words ask, and are told by these again; with edits they fit, or not, as these words ask.
func TestLaws(t *testing.T) {
	kinds := map[api.AvroKind]int{}
	right, wrong, none := 0, 0, 0
	for seed := range uint64(6_000) {
		g := &maker{next: numbers(seed)}
		s := g.whole(2 + int(seed%4))
		if e := avro.Check(s); e != api.OK {
			t.Fatalf("the tests' schema: %d, %v", e, s)
		}
		d, ok := g.fit(0, 8)
		if !ok {
			none++
			refuses(t, s, 0, d)
			unread(t, s, 0, nil)
			continue
		}
		if !agrees(t, s, d) {
			t.Fatalf("the tests' value: %s", show(d))
		}
		back, e := avrocodec.Decode(s, bytesOf(s, 0, d))
		if e != api.OK || !avrocodec.Same(back, d) {
			t.Errorf("P11.4: Decode of Encode: %s, %d; not %s", show(back), e, show(d))
		}
		for range 6 {
			c := copied(d)
			g.edit(&c)
			if avrocodec.Same(c, d) != same(c, d) {
				t.Errorf("P11.3: Same of %s, %s: %t", show(c), show(d), !same(c, d))
			}
			if agrees(t, s, c) {
				right++
			} else {
				wrong++
			}
		}
		keepsMemory(t, s, d, bytesOf(s, 0, d))
		for _, n := range s.Nodes {
			kinds[n.Kind]++
		}
	}
	if right < 2000 || wrong < 5000 || none < 10 || len(kinds) != 14 {
		t.Errorf("the tests' values: %d, %d, %d, %v", right, wrong, none, kinds)
	}
}

// TestBytes: P11.2, P11.4: bytes in several pieces, of numbers that are not as short as goes, are read as the value; with edits they are read, or not, as the chapter's words ask.
func TestBytes(t *testing.T) {
	right, wrong, longer := 0, 0, 0
	for seed := range uint64(2_000) {
		g := &maker{next: numbers(seed)}
		s := g.whole(2 + int(seed%4))
		d, ok := g.fit(0, 8)
		if !ok {
			continue
		}
		plain := bytesOf(s, 0, d)
		for range 2 {
			b := g.loose().value(0, d)
			takes(t, s, 0, d, b)
			if !reads(t, s, b) {
				t.Fatalf("the tests' bytes: %s", show(b))
			}
			if len(b) > len(plain) {
				longer++
			}
			for _, from := range [][]byte{b, plain} {
				for range 5 {
					if reads(t, s, g.spoilt(from)) {
						right++
					} else {
						wrong++
					}
				}
			}
		}
		keepsMemory(t, s, d, g.loose().value(0, d))
	}
	if right < 5000 || wrong < 5000 || longer < 1000 {
		t.Errorf("the tests' bytes: %d, %d, %d", right, wrong, longer)
	}
}

// TestNodesWithin: P11.1, P11.2: Check and Take of each node of schemas of no plain order.
func TestNodesWithin(t *testing.T) {
	right, wrong := 0, 0
	for seed := range uint64(800) {
		g := &maker{next: numbers(seed)}
		s := g.whole(4)
		values := []api.Datum{}
		for at := range s.Nodes {
			if d, ok := g.fit(at, 6); ok {
				values = append(values, d)
			}
		}
		for at := range s.Nodes {
			for range 6 {
				if len(values) == 0 {
					continue
				}
				d := values[g.next(len(values))]
				if fits(s, at, d) {
					right++
					codes(t, s, at, d, bytesOf(s, at, d))
				} else {
					wrong++
					refuses(t, s, at, d)
				}
			}
		}
	}
	if right < 1000 || wrong < 1000 {
		t.Errorf("the tests' values: %d, %d", right, wrong)
	}
}
