package jsontext

import (
	"bytes"
	"strings"
	"unicode/utf8"

	"lexicon/api"
	"lexicon/decimal"
)

const (
	blanks      = " \t\n\r"
	greatDigits = "ABCDEF" // stand for what the last ones of smallDigits do

	// Two escapes that are one letter: the first one is from firstHalf on, the second one from
	// secondHalf on, each of so many; together they count from pairs on.
	firstHalf  = 0xd800
	secondHalf = 0xdc00
	halves     = 0x400
	pairs      = 0x10000
)

// Parse reads a JSON text.
func Parse(b []byte) (v api.JSON, e api.Errno) {
	switch {
	case len(b) > api.MaxText:
		return api.JSON{}, api.ErrLong
	case !utf8.Valid(b):
		return api.JSON{}, api.ErrUTF
	}
	r := &reader{text: b}
	e = caught(func() {
		v = r.whole()
		r.judge()
		measure(&v) // numbers' texts may be longer than they stand here
	})
	if e != api.OK {
		return api.JSON{}, e
	}
	return v, api.OK
}

// reader goes over a JSON text. What is no such text it gives up at once; what else is wrong it
// keeps in mind, as it may be none further on.
type reader struct {
	text []byte
	at   int
	ends []byte  // the signs that end the lists and the objects that are open, the innermost one's last
	open []level // these lists and objects, but for those that are too deep

	deep, alone, twice, far bool
}

// level is a list, or an object, as far as it has been read.
type level struct {
	v     api.JSON
	there map[string]struct{} // an object's names
}

// whole passes the whole text.
func (r *reader) whole() (v api.JSON) {
value:
	switch {
	case r.sign("["):
		r.enter(api.JSONList, ']')
		if r.sign("]") {
			goto leave
		}
		goto value
	case r.sign("{"):
		r.enter(api.JSONObject, '}')
		if r.sign("}") {
			goto leave
		}
		goto name
	}
	v = r.plain()
	goto behind
name:
	r.name()
	r.must(":")
	goto value
leave:
	v = r.leave()
behind:
	switch r.end() {
	case ']':
		r.put(v)
		if r.sign(",") {
			goto value
		}
		r.must("]")
		goto leave
	case '}':
		r.put(v)
		if r.sign(",") {
			goto name
		}
		r.must("}")
		goto leave
	}
	r.blanks()
	if r.at < len(r.text) {
		panic(api.ErrJSON)
	}
	return v
}

// judge gives up by what is wrong with a JSON text that has been passed.
func (r *reader) judge() {
	switch {
	case r.deep:
		panic(api.ErrDeep)
	case r.alone:
		panic(api.ErrAlone)
	case r.twice:
		panic(api.ErrTwice)
	case r.far:
		panic(api.ErrRange)
	}
}

// enter opens a list, or an object.
func (r *reader) enter(kind api.JSONKind, end byte) {
	r.ends = append(r.ends, end)
	if r.isDeep() {
		r.deep = true
		return
	}
	r.open = append(r.open, level{v: api.JSON{Kind: kind}})
}

// end tells what ends the innermost one that is open; a nought, if none is.
func (r *reader) end() byte {
	if len(r.ends) == 0 {
		return 0
	}
	return r.ends[len(r.ends)-1]
}

// isDeep tells whether the innermost one that is open is too deep to be kept.
func (r *reader) isDeep() bool { return len(r.ends) > api.MaxDepth }

// put lays a value into the innermost one that is open.
func (r *reader) put(v api.JSON) {
	if r.isDeep() {
		return
	}
	top := &r.open[len(r.open)-1].v
	top.List = append(top.List, v)
}

// name passes a member's name.
func (r *reader) name() {
	r.must(`"`)
	name := r.letters()
	if r.isDeep() {
		return
	}
	top := &r.open[len(r.open)-1]
	if top.there == nil {
		top.there = map[string]struct{}{}
	}
	if _, ok := top.there[name]; ok {
		r.twice = true
	}
	top.there[name] = struct{}{}
	top.v.Names = append(top.v.Names, name)
}

// leave closes the innermost one that is open, and tells it.
func (r *reader) leave() (v api.JSON) {
	if !r.isDeep() {
		v = r.open[len(r.open)-1].v
		r.open = r.open[:len(r.open)-1]
	}
	r.ends = r.ends[:len(r.ends)-1]
	return v
}

// plain passes a value that is neither a list nor an object.
func (r *reader) plain() api.JSON {
	switch {
	case r.take(`"`):
		return api.JSON{Kind: api.JSONText, Text: r.letters()}
	case r.word("null"):
		return api.JSON{}
	case r.word("true"):
		return api.JSON{Kind: api.JSONBool, Bool: true}
	case r.word("false"):
		return api.JSON{Kind: api.JSONBool}
	}
	return api.JSON{Kind: api.JSONNumber, Number: r.number()}
}

// number passes a number's text, by layer 7's grammar, however long it is.
func (r *reader) number() api.Decimal {
	from := r.at
	r.take("-")
	if !r.take("0") {
		r.digits()
	}
	if r.take(".") {
		r.digits()
	}
	if r.take("eE") {
		r.take("+-")
		r.digits()
	}
	d, e := decimal.Parse(string(r.text[from:r.at]))
	if e != api.OK {
		r.far = true
	}
	return d
}

// digits passes a digit, and those behind it.
func (r *reader) digits() {
	const some = "0123456789"
	if !r.take(some) {
		panic(api.ErrJSON)
	}
	for r.take(some) {
	}
}

// letters passes a text behind its first quote, and its last one.
func (r *reader) letters() string {
	var b []byte
	for {
		switch c := r.next(); {
		case c == '"':
			return string(b)
		case c == '\\':
			b = utf8.AppendRune(b, r.letter())
		case c < least:
			panic(api.ErrJSON)
		default:
			b = append(b, c)
		}
	}
}

// letter passes what stands behind a \.
func (r *reader) letter() rune {
	sign := r.next()
	if sign == 'u' {
		return r.coded()
	}
	at := strings.IndexByte(signs, sign)
	if at < 0 {
		panic(api.ErrJSON)
	}
	return rune(letters[at])
}

// coded passes a letter's four digits, and the escape behind it, if both are one letter.
func (r *reader) coded() rune {
	first := r.four()
	if !isHalf(first, firstHalf) && !isHalf(first, secondHalf) {
		return first
	}
	if isHalf(first, firstHalf) && r.word(`\u`) {
		if second := r.four(); isHalf(second, secondHalf) {
			return pairs + (first-firstHalf)*halves + second - secondHalf
		}
	}
	r.alone = true
	return utf8.RuneError
}

// isHalf tells whether a letter is half of one, of those from the first one on.
func isHalf(c, from rune) bool { return from <= c && c < from+halves }

// four passes four digits to the base 16.
func (r *reader) four() rune {
	n := 0
	for range 4 {
		at := strings.IndexByte(smallDigits+greatDigits, r.next())
		switch {
		case at < 0:
			panic(api.ErrJSON)
		case at >= len(smallDigits):
			at -= len(greatDigits)
		}
		n = n*len(smallDigits) + at
	}
	return rune(n)
}

// word passes a word, if it is next.
func (r *reader) word(w string) bool {
	found := bytes.HasPrefix(r.text[r.at:], []byte(w))
	if found {
		r.at += len(w)
	}
	return found
}

// must passes a sign, and the blanks ahead of it.
func (r *reader) must(sign string) {
	if !r.sign(sign) {
		panic(api.ErrJSON)
	}
}

// sign passes blanks, and then a sign, if it is next.
func (r *reader) sign(sign string) bool {
	r.blanks()
	return r.take(sign)
}

// blanks passes blanks.
func (r *reader) blanks() {
	for r.take(blanks) {
	}
}

// take passes a byte, if it is any of these.
func (r *reader) take(these string) bool {
	found := r.at < len(r.text) && strings.IndexByte(these, r.text[r.at]) >= 0
	if found {
		r.at++
	}
	return found
}

// next passes a byte, which must be there.
func (r *reader) next() byte {
	if r.at == len(r.text) {
		panic(api.ErrJSON)
	}
	r.at++
	return r.text[r.at-1]
}
