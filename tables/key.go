package tables

import (
	"bytes"
	"cmp"
	"slices"

	"lexicon/api"
)

const (
	minTable, maxTable = 1, 32 // bytes of a table's name
	minParts, maxParts = 1, 8

	numberMark = 1 // begins a number, and so stands ahead of what begins a text
	textMark   = 2

	// A nought within a text has the second one of these behind it, the one that ends it has the
	// first one: so a text is ahead of all that it begins.
	nought     = 0
	textEnd    = 1
	noughtMore = 255

	numberBytes = 8
	byteBits    = 8
	topByte     = (numberBytes - 1) * byteBits
	lift        = 1 << 63 // by which numbers are laid greater: then those below 0 are ahead of the others
)

// Key tells a row's bytes.
func Key(table string, key ...api.Part) ([]byte, api.Errno) {
	if len(key) < minParts {
		return nil, api.ErrArg
	}
	return begun(table, key)
}

// Parts reads them.
func Parts(b []byte) (string, []api.Part, api.Errno) {
	if len(b) > api.MaxKey {
		return "", nil, api.ErrArg
	}
	r := &reader{left: b}
	table, key := r.row()
	if again, e := Key(table, key...); e != api.OK || !bytes.Equal(again, b) {
		return "", nil, api.ErrArg
	}
	return table, key, api.OK
}

// Compare holds keys against each other.
func Compare(a, b []api.Part) int {
	order := 0
parts:
	for i := 0; order == 0; i++ {
		switch {
		case i == len(a), i == len(b):
			order = cmp.Compare(len(a), len(b))
			break parts
		case a[i].Is && b[i].Is:
			order = cmp.Compare(a[i].Number, b[i].Number)
		case a[i].Is:
			order = -1
		case b[i].Is:
			order = 1
		default:
			order = cmp.Compare(a[i].Text, b[i].Text)
		}
	}
	return order
}

// begun tells the bytes that rows have whose keys are these parts, or begin with them; of no parts
// all rows of the table.
func begun(table string, parts []api.Part) ([]byte, api.Errno) {
	if len(table) < minTable || len(table) > maxTable || len(parts) > maxParts || slices.ContainsFunc(parts, unfit) {
		return nil, api.ErrArg
	}
	b := laid(table, parts)
	if len(b) > api.MaxKey {
		return nil, api.ErrArg
	}
	return b, api.OK
}

// behind tells the least bytes that are behind those of all rows of a table.
func behind(table string) []byte {
	b := laid(table, nil)
	b[len(b)-1]++
	return b
}

// unfit tells whether a part may not be.
func unfit(p api.Part) bool {
	if p.Is {
		return p.Text != ""
	}
	return p.Number != 0 || len(p.Text) > api.MaxKey // a longer one need not be laid to be known
}

// laid tells a table's name, as a text, and parts as bytes.
func laid(table string, parts []api.Part) []byte {
	var b []byte
	lay := func(by ...byte) { b = append(b, by...) }
	layText(lay, table)
	for _, p := range parts {
		if p.Is {
			layNumber(lay, p.Number)
		} else {
			layText(lay, p.Text)
		}
	}
	return b
}

// layNumber lays a number, the highest byte first.
func layNumber(lay func(by ...byte), n int64) {
	lay(numberMark)
	u := uint64(n)
	u += lift
	for range numberBytes {
		lay(byte(u >> topByte))
		u <<= byteBits
	}
}

// layText lays a text.
func layText(lay func(by ...byte), text string) {
	lay(textMark)
	for _, by := range []byte(text) {
		lay(by)
		if by == nought {
			lay(noughtMore)
		}
	}
	lay(nought, textEnd)
}

// reader takes a row's table and key off bytes. It reads those, too, that no row has: they would
// not be laid like that again.
type reader struct{ left []byte }

// row takes all of it.
func (r *reader) row() (table string, key []api.Part) {
	table = r.part().Text
	for len(r.left) > 0 {
		key = append(key, r.part())
	}
	return table, key
}

// part takes a part.
func (r *reader) part() api.Part {
	if r.next() == numberMark {
		return api.Part{Number: r.number(), Is: true}
	}
	return api.Part{Text: r.text()}
}

// number takes a number.
func (r *reader) number() int64 {
	u := uint64(0)
	for range numberBytes {
		u <<= byteBits
		u |= uint64(r.next())
	}
	u -= lift
	return int64(u)
}

// text takes a text, up to its end.
func (r *reader) text() string {
	var text []byte
	for len(r.left) > 0 {
		by := r.next()
		if by == nought && r.next() != noughtMore {
			break
		}
		text = append(text, by)
	}
	return string(text)
}

// next takes a byte; a nought where there is none.
func (r *reader) next() byte {
	if len(r.left) == 0 {
		return nought
	}
	by := r.left[0]
	r.left = r.left[1:]
	return by
}
