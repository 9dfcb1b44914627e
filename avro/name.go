package avro

import (
	"strings"

	"lexicon/api"
)

// kinds tells the kinds that a text may name, by their names.
func kinds() map[string]api.AvroKind {
	return map[string]api.AvroKind{
		"null":    api.AvroNull,
		"boolean": api.AvroBool,
		"int":     api.AvroInt,
		"long":    api.AvroLong,
		"float":   api.AvroFloat,
		"double":  api.AvroDouble,
		"bytes":   api.AvroBytes,
		"string":  api.AvroText,
		"record":  api.AvroRecord,
		"enum":    api.AvroEnum,
		"fixed":   api.AvroFixed,
		"array":   api.AvroList,
		"map":     api.AvroMap,
	}
}

// isPlain tells whether nodes of a kind are plain ones.
func isPlain(kind api.AvroKind) bool { return api.AvroNull <= kind && kind <= api.AvroText }

// isNamed tells whether nodes of a kind are named ones.
func isNamed(kind api.AvroKind) bool {
	return kind == api.AvroRecord || kind == api.AvroEnum || kind == api.AvroFixed
}

// names are full names that are defined, each with the number of its node.
type names map[string]int

// add defines a full name.
func (l names) add(name string, at int) {
	kind, known := kinds()[name]
	_, there := l[name]
	if there || known && isPlain(kind) || !isFull(name) {
		panic(api.ErrName)
	}
	l[name] = at
}

// parts are the names of a record's fields, or an enum's symbols.
type parts map[string]struct{}

// add puts one more to them.
func (l parts) add(name string) {
	_, there := l[name]
	if there || !isPart(name) || len(name) > api.MaxName {
		panic(api.ErrName)
	}
	l[name] = struct{}{}
}

// isFull tells whether a text is a full name.
func isFull(name string) bool {
	if len(name) > api.MaxName {
		return false
	}
	for _, part := range strings.Split(name, ".") {
		if !isPart(part) {
			return false
		}
	}
	return true
}

// isPart tells whether a text is a part of a name.
func isPart(name string) bool {
	for i := range len(name) {
		c := name[i]
		isLetter := 'A' <= c && c <= 'Z' || 'a' <= c && c <= 'z' || c == '_'
		isDigit := '0' <= c && c <= '9'
		if !isLetter && !(isDigit && i > 0) {
			return false
		}
	}
	return name != ""
}

// spaceOf tells a full name's space.
func spaceOf(name string) string {
	return name[:max(strings.LastIndexByte(name, '.'), 0)]
}

// within tells the full name that stands for a name in a space.
func within(space, name string) string {
	if space == "" || hasPoint(name) {
		return name
	}
	return space + "." + name
}

// hasPoint tells whether a name says its space itself.
func hasPoint(name string) bool { return strings.Contains(name, ".") }
