package avro

import (
	"math"
	"slices"
	"strconv"
	"strings"
	"unicode"
	"unicode/utf8"

	"lexicon/api"
	"lexicon/decimal"
	"lexicon/jsontext"
)

// askDefaults asks the defaults of a node's fields, values that may be, whether they fit.
func askDefaults(nodes []api.AvroNode, n api.AvroNode) {
	for _, f := range n.Fields {
		if f.Has && !fits(nodes, f.Type, f.Default) {
			panic(api.ErrDefault)
		}
	}
}

// fits tells whether a value that may be fits a node.
func fits(nodes []api.AvroNode, at int, v api.JSON) bool {
	n := nodes[at]
	switch n.Kind {
	case api.AvroNull:
		return v.Kind == api.JSONNull
	case api.AvroBool:
		return v.Kind == api.JSONBool
	case api.AvroInt:
		i, ok := jsontext.Int(v)
		return ok && math.MinInt32 <= i && i <= math.MaxInt32
	case api.AvroLong:
		_, ok := jsontext.Int(v)
		return ok
	case api.AvroFloat:
		return isFloat(v, 32)
	case api.AvroDouble:
		return isFloat(v, 64)
	case api.AvroBytes:
		return areBytes(v)
	case api.AvroText:
		return v.Kind == api.JSONText
	case api.AvroRecord:
		return v.Kind == api.JSONObject && len(v.Names) == len(n.Fields) && allFields(nodes, n, v)
	case api.AvroEnum:
		return isSymbol(n, v.Text)
	case api.AvroFixed:
		return areBytes(v) && utf8.RuneCountInString(v.Text) == n.Size
	case api.AvroList:
		return v.Kind == api.JSONList && allFit(nodes, n, v)
	case api.AvroMap:
		return v.Kind == api.JSONObject && allFit(nodes, n, v)
	}
	return fits(nodes, n.Kids[0], v)
}

// allFields tells whether each field of a record has a member that fits.
func allFields(nodes []api.AvroNode, n api.AvroNode, v api.JSON) bool {
	for _, f := range n.Fields {
		if m, ok := member(v, f.Name); !ok || !fits(nodes, f.Type, m) {
			return false
		}
	}
	return true
}

// allFit tells whether all that is in a value fits what a node is of.
func allFit(nodes []api.AvroNode, n api.AvroNode, v api.JSON) bool {
	return !slices.ContainsFunc(v.List, func(v api.JSON) bool { return !fits(nodes, n.Kids[0], v) })
}

// isFloat tells whether a value is a number whose nearest float of so many bits is finite.
func isFloat(v api.JSON, bits int) bool {
	text, _ := decimal.Text(v.Number)
	_, err := strconv.ParseFloat(text, bits)
	return v.Kind == api.JSONNumber && err == nil
}

// areBytes tells whether a value is a text whose letters are a byte each.
func areBytes(v api.JSON) bool {
	return v.Kind == api.JSONText && strings.IndexFunc(v.Text, isAboveByte) < 0
}

// isAboveByte tells whether no byte stands for a letter.
func isAboveByte(c rune) bool { return c > unicode.MaxLatin1 }

// isSymbol tells whether a text is one of an enum's symbols.
func isSymbol(n api.AvroNode, text string) bool { return slices.Contains(n.Symbols, text) }

// isSize tells whether a fixed one may have so many bytes.
func isSize(n int64) bool { return 0 <= n && n <= maxSize }
