package avroresolve

import (
	"strings"

	"lexicon/api"
)

// last tells a full name's last part; nothing of a node that has no name.
func last(name string) string { return name[strings.LastIndexByte(name, '.')+1:] }

// isFull tells whether a text is a full name.
func isFull(name string) bool {
	for part := range strings.SplitSeq(name, ".") {
		if !isPart(part) {
			return false
		}
	}
	return len(name) <= api.MaxName
}

// isPart tells whether a text is a part of a name.
func isPart(text string) bool {
	isDigit := func(c rune) bool { return '0' <= c && c <= '9' }
	isOther := func(c rune) bool {
		return c != '_' && !isDigit(c) && (c < 'A' || 'Z' < c) && (c < 'a' || 'z' < c)
	}
	return text != "" && !isDigit(rune(text[0])) && !strings.ContainsFunc(text, isOther)
}
