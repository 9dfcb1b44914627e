package jsontext

import (
	"strconv"
	"strings"
	"unicode/utf8"

	"lexicon/api"
	"lexicon/decimal"
)

const (
	// What may stand behind a \, but for a u, and the letter that it stands for; but for the last
	// one, they are letters that do not stand in quotes themselves.
	signs   = `"\bfnrt/`
	letters = "\"\\\b\f\n\r\t/"

	least       = ' ' // of the bytes that stand in quotes themselves
	smallDigits = "0123456789abcdef"
)

// Print tells a value's text.
func Print(v api.JSON) []byte {
	if !mayBe(v) {
		return nil
	}
	var b []byte
	tell(&v, func(piece string) { b = append(b, piece...) })
	return b
}

// Quote tells a text in quotes.
func Quote(s string) (string, api.Errno) {
	switch {
	case len(s) > api.MaxText:
		return "", api.ErrLong
	case !utf8.ValidString(s):
		return "", api.ErrUTF
	}
	var b strings.Builder
	quote(s, func(piece string) { b.WriteString(piece) })
	return b.String(), api.OK
}

// measure gives up, if a value's text is too long.
func measure(v *api.JSON) {
	room := api.MaxText
	tell(v, func(piece string) {
		room -= len(piece)
		if room < 0 {
			panic(api.ErrLong)
		}
	})
}

// tell lays a value's text, piece by piece.
func tell(v *api.JSON, lay func(piece string)) {
	open, end := "{", "}"
	switch v.Kind {
	case api.JSONNull:
		lay("null")
	case api.JSONBool:
		lay(strconv.FormatBool(v.Bool))
	case api.JSONNumber:
		text, _ := decimal.Text(v.Number)
		lay(text)
	case api.JSONText:
		quote(v.Text, lay)
	case api.JSONList:
		open, end = "[", "]"
		fallthrough
	default:
		lay(open)
		for i := range v.List {
			if i > 0 {
				lay(",")
			}
			if v.Kind == api.JSONObject {
				quote(v.Names[i], lay)
				lay(":")
			}
			tell(&v.List[i], lay)
		}
		lay(end)
	}
}

// quote lays a text in quotes, piece by piece.
func quote(s string, lay func(piece string)) {
	lay(`"`)
	from := 0 // of what is not laid yet
	for i, c := range s {
		if c >= least && c != '"' && c != '\\' {
			continue
		}
		lay(s[from:i])
		lay(escape(c))
		from = i + 1
	}
	lay(s[from:])
	lay(`"`)
}

// escape tells how a letter stands in quotes that does not do so itself.
func escape(c rune) string {
	if at := strings.IndexRune(letters, c); at >= 0 {
		return `\` + signs[at:at+1]
	}
	high, low := c/16, c%16
	return `\u00` + smallDigits[high:high+1] + smallDigits[low:low+1]
}
