package jsontext_test

import (
	"bytes"
	"encoding/json"
	"fmt"
	"slices"
	"strconv"
	"strings"
	"testing"
	"unicode/utf8"

	"lexicon/api"
	"lexicon/decimal"
	"lexicon/jsontext"
)

// read is the answer that the chapter's words ask of Parse, of a text that does not nest more than 10000 deep.
func read(b []byte) (api.JSON, api.Errno) {
	switch {
	case len(b) > 1<<20:
		return api.JSON{}, api.ErrLong
	case !utf8.Valid(b):
		return api.JSON{}, api.ErrUTF
	case !json.Valid(b):
		return api.JSON{}, api.ErrJSON
	}
	d := json.NewDecoder(bytes.NewReader(b))
	d.UseNumber()
	r := &model{d: d, met: map[api.Errno]int{}}
	v := r.value(0)
	if lone(b) {
		r.met[api.ErrAlone]++
	}
	for _, e := range []api.Errno{api.ErrDeep, api.ErrAlone, api.ErrTwice, api.ErrRange} {
		if r.met[e] > 0 {
			return api.JSON{}, e
		}
	}
	if len(printed(v)) > 1<<20 {
		return api.JSON{}, api.ErrLong
	}
	return v, api.OK
}

// model reads values by the library's reader, and counts the errors that it meets.
type model struct {
	d   *json.Decoder
	met map[api.Errno]int
}

// value is the next value.
func (r *model) value(in int) api.JSON {
	token, err := r.d.Token()
	if err != nil {
		panic(err)
	}
	switch x := token.(type) {
	case bool:
		return api.JSON{Kind: api.JSONBool, Bool: x}
	case json.Number:
		n, e := decimal.Parse(string(x))
		if e != api.OK {
			r.met[api.ErrRange]++
		}
		return api.JSON{Kind: api.JSONNumber, Number: n}
	case string:
		return text(x)
	case json.Delim:
		if in == 64 {
			r.met[api.ErrDeep]++
		}
		v := api.JSON{Kind: api.JSONList}
		if x == '{' {
			v.Kind = api.JSONObject
		}
		for r.d.More() {
			if x == '{' {
				name, _ := r.d.Token()
				if slices.Contains(v.Names, name.(string)) {
					r.met[api.ErrTwice]++
				}
				v.Names = append(v.Names, name.(string))
			}
			v.List = append(v.List, r.value(in+1))
		}
		r.d.Token()
		return v
	}
	return null()
}

// lone tells whether a JSON text has an escape that is alone.
func lone(b []byte) bool {
	unit := func(at int) int { // what an escape at a place stands for; -1, if there is none of four digits
		if at+6 > len(b) || b[at] != '\\' || b[at+1] != 'u' {
			return -1
		}
		n, _ := strconv.ParseUint(string(b[at+2:at+6]), 16, 32)
		return int(n)
	}
	for at := 0; at < len(b); at++ {
		if b[at] != '\\' {
			continue
		}
		switch u := unit(at); {
		case u>>10 == 0xd800>>10 && unit(at+6)>>10 == 0xdc00>>10:
			at += 11
		case u>>11 == 0xd800>>11:
			return true
		default:
			at++
		}
	}
	return false
}

// gives complains if Parse answers anything but what is wanted.
func gives(t *testing.T, s string, want api.JSON, code api.Errno) {
	t.Helper()
	b := []byte(s)
	v, e := jsontext.Parse(b)
	if e != code || !alike(v, want) {
		t.Errorf("P8.1: Parse of %.100q (%d bytes): %s, %d, not %s, %d", s, len(s), brief(v), e, brief(want), code)
	}
	if string(b) != s {
		t.Errorf("P8.1: Parse changed %.100q", s)
	}
}

// refuses complains if Parse answers anything but an error.
func refuses(t *testing.T, code api.Errno, l ...string) {
	t.Helper()
	for _, s := range l {
		gives(t, s, api.JSON{}, code)
	}
}

// reads complains if Parse answers anything but what the model does, and tells what it is.
func reads(t *testing.T, s string) api.Errno {
	t.Helper()
	want, e := read([]byte(s))
	gives(t, s, want, e)
	return e
}

// escaped are letters as \u and their digits.
func escaped(units ...int) string {
	s := ""
	for _, u := range units {
		s += fmt.Sprintf(`\u%04x`, u)
	}
	return s
}

// TestParse: P8.1: the chapter's examples, and texts of each kind of value.
func TestParse(t *testing.T) {
	gives(t, ` {"a" : [1, -0.50e1, null], "b":"\u00e9\ud83d\ude00\/"} `, object("a", list(number("1"), number("-5"), null()), "b", text("\u00e9\U0001f600/")), api.OK)
	refuses(t, api.ErrJSON, "", "[1,]", `{"a":1,}`, "[1 2]", "nul", `"\x"`, "\"\n\"", "01", "1 2", `{"a":1,"a":[}`)
	refuses(t, api.ErrAlone, `"\ud800"`, `"\ude00\ud83d"`, `"\ud83dx"`)
	refuses(t, api.ErrTwice, `{"a":1,"\u0061":2}`)
	refuses(t, api.ErrRange, "[1e1001]")
	refuses(t, api.ErrDeep, strings.Repeat("[", 65)+strings.Repeat("]", 65))
	refuses(t, api.ErrUTF, "{\"a\":1,\"a\":[}\xff")
	for s, want := range map[string]api.JSON{
		"null": null(), "true": yes(), "false": no(), "0": number("0"), "-0": number("0"), "1": number("1"), "-1.50E+2": number("-150"), `""`: text(""), `"a"`: text("a"), "[]": list(), "{}": object(), "[[]]": list(list()), "[{}]": list(object()), `{"":{}}`: object("", object()),
		"[null]": list(null()), "[null,true,false]": list(null(), yes(), no()), `["a","b"]`: list(text("a"), text("b")), `{"a":null}`: object("a", null()), `{"b":1,"a":2}`: object("b", number("1"), "a", number("2")), `{"b":{"a":1},"a":{"b":1}}`: object("b", object("a", number("1")), "a", object("b", number("1"))),
		"[[],[[]],[[[]]]]": list(list(), list(list()), list(list(list()))), "[[1],2,[3,[4]],5]": list(list(number("1")), number("2"), list(number("3"), list(number("4"))), number("5")), `{"a":[{"a":[{"a":[]}]}]}`: object("a", list(object("a", list(object("a", list()))))), `[{"a":1},{"a":2}]`: list(object("a", number("1")), object("a", number("2"))),
		`{"a":"a","A":"A","a ":" ","":""}`: object("a", text("a"), "A", text("A"), "a ", text(" "), "", text("")), "\"\u007f\u0080é\u2028\ufeff\uffff\U0010ffff\"": text("\u007f\u0080é\u2028\ufeff\uffff\U0010ffff"), `"/[]{}:,'"`: text("/[]{}:,'"), `"null"`: text("null"), `{"é":"\u00e9"}`: object("é", text("é")), `{"e\u0301":1,"é":2}`: object("e\u0301", number("1"), "é", number("2")),
		"[1e20,1e21,1e-7,-1e-6]": list(number("1e20"), number("1e21"), number("1e-7"), number("-1e-6")), `"\u0000\u0022\u005C\u002f"`: text("\x00\"\\/"), `"a\nb\u0041c"`: text("a\nbAc"), `"\\u0041\\\"\\\\"`: text(`\u0041\"\\`), `"\\ud800"`: text(`\ud800`),
	} {
		gives(t, s, want, api.OK)
	}
}

// TestParseWrong: P8.1: what is no JSON text.
func TestParseWrong(t *testing.T) {
	refuses(t, api.ErrJSON, " ", "\n", ",", ":", "]", "}", "[", "{", "\"", "\\", "a", "'a'", "a:1", "/**/1", "1//", "#", "[1", "[1,", "[1,,2]", "[,1]", "[,]", "[1;2]", "[]]", "[}", "{]", "[[]", "[1}", "{}}", "{{}}", "{1}", "{1:2}", `{"a"}`, `{"a":}`, `{"a":1`, `{"a":1,`, `{"a":1]`, `{"a",1}`, `{"a"1}`, `{"a"::1}`, `{"a":1 "b":2}`, `{"a":1,,"b":2}`, `{,"a":1}`, `{,}`, `{a:1}`, `{'a':1}`, `{null:1}`, `{["a"]:1}`, `{"a":1:2}`, `{"a":1,2}`, `["a":1]`, "[1:2]", "{[]}",
		"Null", "NULL", "nulL", "nulll", "null null", "nullnull", "null,", "n", "t", "f", "tru", "True", "TRUE", "truee", "fals", "False", "falsee", "truefalse", "true1", "1true", "nil", "None", "undefined", "NaN", "Infinity", "-Infinity", "inf", "[nul]", "[null true]", `null"a"`, `"a"null`, `"a""b"`, `"a" "b"`, "[][]", "{}{}", "[]1", "1[]", "{}null",
		`"a`, `a"`, `"\"`, `"\`, `"\\\"`, `"\u`, `"\u"`, `"\u0`, `"\u00"`, `"\u000`, `"\u000"`, `"\u000g"`, `"\u00g0"`, `"\u0g00"`, `"\ug000"`, `"\u 000"`, `"\u+000"`, `"\u-001"`, `"\u0x00"`, `"\u{41}"`, `"\U0041"`, `"\x41"`, `"\0"`, `"\a"`, `"\v"`, `"\e"`, `"\'"`, `"\1"`, `"\ "`, "\"\\\n\"", "\"\\é\"", "\"\\\u007f\"", `"\N"`, `"\B"`, `"\ud800\u"`, `"\ud800\ud"`, `"\ud800\udc0"`, `"\ud800\udc0g"`, `"\ud800\x"`, `"\ud800\"`, `"\ud800`, `"\ud83d\ude00`, "\ufeff1", "1\ufeff", "[\ufeff]", "\u00a01", "\ufeff", "\u2028", "\x001", "1\x00", "[\x00]", "\"\x00\"", "\"\x1f\"",
		"-", "+1", "-a", "--1", "- 1", "1.", ".5", "-.5", "1.e1", "1e", "1e+", "1e-", "1E", "1e+-1", "1e1.5", "1e1e1", "1.5.5", "00", "-00", "-01", "0.", "0e", "01.5", "0x10", "1_0", "1,0", "1a", "1.a", "1e1a", "[-]", "[1.]", "[01]", "[1e]", "[.5]", "[+1]", "1-1", "1+1", "0-", "-1-", "١", "[1\u00b2]", "１")
}

// TestParseAll: P8.1: all short texts of the grammar's signs, of numbers' letters, of quotes and escapes, against the model.
func TestParseAll(t *testing.T) {
	met := map[api.Errno]int{}
	for _, x := range []struct {
		letters string
		most    int
		in      string
	}{{"[]{},:\" 1", 5, "*"}, {"[],1", 7, "*"}, {"{}:,\"", 7, "*"}, {"{}:,\"", 4, "{\"a\":*}"}, {"-+.eE01 ", 5, "*"}, {"-.e01", 5, "[1,*]"}, {"\"\\u0an", 5, "\"*\""}, {"\"\\ud8c0", 4, "\"\\ud8*"}, {"tfn,]", 3, "[true,*"}} {
		for _, s := range texts(x.letters, x.most) {
			met[reads(t, strings.ReplaceAll(x.in, "*", s))]++
		}
	}
	pieces := []string{escaped(0xd7ff), escaped(0xd800), escaped(0xdbff), escaped(0xdc00), escaped(0xdfff), escaped(0xe000), `\uD83D`, `\uDE00`, escaped('a'), `\n`, `\\`, "a", "ud800", "\U0001f600"}
	for _, a := range pieces {
		for _, b := range append(pieces, "") {
			for _, c := range append(pieces, "") {
				met[reads(t, `"`+a+b+c+`"`)]++
			}
			met[reads(t, `{"`+a+`":1,"`+b+`":2}`)]++
		}
	}
	for _, e := range []api.Errno{api.OK, api.ErrJSON, api.ErrAlone, api.ErrTwice} {
		if met[e] < 10 {
			t.Errorf("P8.1: %d met %d times only", e, met[e])
		}
	}
}

// texts are all texts of these letters, of up to so many.
func texts(letters string, most int) []string {
	all := []string{""}
	from := 0
	for range most {
		to := len(all)
		for _, s := range all[from:to] {
			for _, letter := range letters {
				all = append(all, s+string(letter))
			}
		}
		from = to
	}
	return all
}

// TestParseBytes: P8.1: each byte, and letters of more bytes, in each place of a text.
func TestParseBytes(t *testing.T) {
	var l []string
	for b := range 256 {
		l = append(l, string([]byte{byte(b)}))
	}
	l = append(l, "\u0080", "\u0085", "\u00a0", "\u1680", "\u2003", "\u2028", "\u3000", "\ufeff", "\uffff", "\U0010ffff", "\r\n", " \t\n\r", "\v", "\f")
	l = append(l, broken()...)
	for _, in := range []string{"*", "*1", "1*", "1*1", " * ", "*null*", "nul*", "[*]", "[*1]", "[1*]", "[1*,1]", "[1,*1]", "*[]*", "*{}*", "{*}", `{*"a":1}`, `{"a"*:1}`, `{"a":*1}`, `{"a":1*}`, `{"a":1*,"b":2}`, `{"a":1,*"b":2}`, `{"*":1}`, `{"a":1,"*":2}`, `"*"`, `"a*b"`, `"\*"`, `"\*0041"`, `"\u*041"`, `"\u004*"`, `"\u00*1"`, `"\ud83d*ude00"`, `"\ud83d\*de00"`, `"\ud83d\u*e00"`, `"\ud83d\ude0*"`, `*"a"*`, "-*", "0*1", "0.*", "1e*", "1e*1", "1.5*", "tru*e", "[[]*[]]", `[{"a":[]*}]`} {
		for _, s := range l {
			reads(t, strings.ReplaceAll(in, "*", s))
		}
	}
}

// TestParseBlanks: P8.1: blanks of all kinds in each place where they may be, and nowhere else.
func TestParseBlanks(t *testing.T) {
	tokens := []string{"[", "{", `"a b"`, ":", "1", ",", `"b"`, ":", "[", "]", ",", `"c"`, ":", "{", "}", "}", ",", "null", ",", "-0.5e1", ",", "[", "true", ",", "false", "]", "]"}
	want := list(object("a b", number("1"), "b", list(), "c", object()), null(), number("-5"), list(yes(), no()))
	for _, blank := range []string{"", " ", "\t", "\n", "\r", "\r\n", " \t\n\r \t\n\r", strings.Repeat(" ", 1000)} {
		gives(t, strings.Join(tokens, blank), want, api.OK)
		gives(t, blank+strings.Join(tokens, blank)+blank, want, api.OK)
		for _, token := range []string{"null", "true", "-10.25e-10", `"\u0041"`, `"\ud83d\ude00"`} {
			for at := 1; at < len(token); at++ {
				if blank != "" {
					reads(t, token[:at]+blank+token[at:])
				}
			}
		}
	}
	for _, blank := range []string{"\v", "\f", "\x00", "\x1f", "\x7f", "\u0085", "\u00a0", "\u2028", "\ufeff", "/**/", "#\n", "\\n", "\b"} {
		for i := range len(tokens) + 1 {
			refuses(t, api.ErrJSON, strings.Join(tokens[:i], "")+blank+strings.Join(tokens[i:], ""))
		}
	}
}

// TestParseEscapes: P8.1: each letter by its four digits, small and great, and pairs at all ends of their ranges.
func TestParseEscapes(t *testing.T) {
	for c := range 1 << 16 {
		for _, s := range []string{fmt.Sprintf(`"\u%04x"`, c), fmt.Sprintf(`"\u%04X"`, c)} {
			if c >= 0xd800 && c < 0xe000 {
				refuses(t, api.ErrAlone, s)
			} else {
				gives(t, s, text(string(rune(c))), api.OK)
			}
		}
	}
	gives(t, `"\uabCD\uAbcD\u00Ff\u0aF0"`, text("\uabcd\uabcd\u00ff\u0af0"), api.OK)
	gives(t, `"\"\\\/\b\f\n\r\t"`, text("\"\\/\b\f\n\r\t"), api.OK)
	ends := []int{0xd800, 0xd801, 0xd83d, 0xdbfe, 0xdbff}
	for first := 0xd800; first < 0xdc00; first++ {
		for _, second := range []int{0xdc00, 0xdc01, 0xde00, 0xdffe, 0xdfff} {
			gives(t, `"`+escaped(first, second)+`"`, text(string(rune(0x10000+0x400*(first-0xd800)+second-0xdc00))), api.OK)
		}
		refuses(t, api.ErrAlone, `"`+escaped(first, 0xdbff)+`"`, `"`+escaped(first, 0xe000)+`"`, `"`+escaped(first, 0x41)+`"`, `"`+escaped(0xdc00, first)+`"`)
	}
	for second := 0xdc00; second < 0xe000; second++ {
		for _, first := range ends {
			gives(t, `"`+escaped(first, second)+`"`, text(string(rune(0x10000+0x400*(first-0xd800)+second-0xdc00))), api.OK)
		}
		refuses(t, api.ErrAlone, `"`+escaped(second, 0xd800)+`"`, `"`+escaped(second, second)+`"`, `"`+escaped(0xd7ff, second)+`"`)
	}
	gives(t, `"a\uD83D\uDE00\uD83D\uDE01b"`, text("a\U0001f600\U0001f601b"), api.OK)
	gives(t, `"\ud800\udc00\udbff\udfff"`, text("\U00010000\U0010ffff"), api.OK)
	gives(t, `{"\ud83d\ude00":1,"\ud83d\ude01":2}`, object("\U0001f600", number("1"), "\U0001f601", number("2")), api.OK)
	refuses(t, api.ErrAlone, `"\ud83d\n"`, `"\ud83d\\ude00"`, `"\ud83d\"ude00"`, `"\ud83d \ude00"`, `"\ud83dude00"`, `"\ud83d\ud83d\ude00"`, `"\ud83d\ude00\ude00"`, `"\ud83d\ude00\ud83d"`, `"x\udc00"`, `"\udc00x"`, `"\ud83d"`, `["\ud83d","\ude00"]`, `{"\ud83d":"\ude00"}`, `{"\ud83d":1}`, `{"\ude00":1}`, `{"a":1,"b\ud83d":1}`, "\"\\ud83d\U0001f600\"", `"\uDFFF"`, `"\uDBFF"`, `[[["\ud800"]]]`, `["\ud83d\u0022"]`, `"\ud83d\/"`, `["\ud83d\ud83d"]`, `["\ud83d\uffff"]`)
}

// TestParseTwice: P8.1: names that are the same, by their escapes too, in one object, and in several.
func TestParseTwice(t *testing.T) {
	refuses(t, api.ErrTwice, `{"a":1,"a":1}`, `{"":1,"":2}`, `{"a":1,"b":2,"a":3}`, `{"b":1,"a":2,"a":3}`, `{"a":1,"b":1,"c":1,"b":1}`, `[{"a":1,"a":2}]`, `{"x":{"a":1,"a":2}}`, `{"x":[1,{"y":{"a":1,"a":2}}]}`, `{"a":{},"a":[]}`, `{"a":{"a":1},"a":2}`, `{"a":[{"b":1}],"b":2,"a":3}`, `{"a":1,"b":{"c":2},"a":3}`,
		`{"\u0061":1,"a":2}`, `{"\u0061":1,"\u0061":2}`, `{"/":1,"\/":2}`, `{"\n":1,"\u000a":2}`, `{"\n":1,"\u000A":2}`, `{"é":1,"\u00e9":2}`, `{"\u00E9":1,"\u00e9":2}`, `{"😀":1,"\ud83d\ude00":2}`, `{"\"":1,"\u0022":2}`, `{"\\":1,"\u005c":2}`, `{"\u0000":1,"\u0000":2}`, `{"a b":1,"a\u0020b":2}`)
	for _, s := range []string{`{"a":1,"A":2}`, `{"a":1,"a ":2}`, `{"":1," ":2}`, `{"a":{"a":{"a":1}}}`, `[{"a":1},{"a":1}]`, `{"a":["a","a"],"b":"a"}`, `{"a":{"b":1},"b":{"a":1}}`, `{"\\n":1,"\n":2}`, `{"\\u0061":1,"a":2}`, `{"a":[{"b":1},{"b":1}],"b":[{"a":1}]}`, `{"a\u0000":1,"a":2}`, `{"\ufffd":1,"\ufffe":2}`} {
		wants(t, "P8.1: names that are not the same: "+s, reads(t, s), api.OK)
	}
	var b strings.Builder
	for i := range 60_000 {
		fmt.Fprintf(&b, `"%d":0,`, i)
	}
	v, e := jsontext.Parse([]byte("{" + b.String() + `"x":1}`))
	wants(t, "P8.1: many names", e, api.OK)
	wants(t, "P8.1: many names, the last one", v.Names[60_000], "x")
	refuses(t, api.ErrTwice, "{"+b.String()+`"30000":1}`)
}

// TestParseLong: P8.1: texts of MaxText bytes and of one more, whatever they are.
func TestParseLong(t *testing.T) {
	const most = 1 << 20
	a := strings.Repeat("a", most)
	for _, n := range []int{most, most + 1, most + 2, most * 2} {
		fill := func(ahead, many, behind string) string {
			return ahead + strings.Repeat(many, (n-len(ahead)-len(behind))/len(many)) + behind
		}
		for _, x := range []struct {
			s string
			v api.JSON
			e api.Errno
		}{
			{fill("1", " ", ""), number("1"), api.OK}, {fill("", "\n", "{}"), object(), api.OK}, {fill("[", "\t", "]"), list(), api.OK}, {fill("\"", "a", "\""), text(a[:most-2]), api.OK}, {fill(`{"`, "a", `":1}`), object(a[:most-6], number("1")), api.OK}, {fill(`["b","`, "a", `"]`), list(text("b"), text(a[:most-8])), api.OK},
			{fill(`"aa`, `\u0061`, ` "`), text("aa" + strings.Repeat("a", (most-5)/6) + " "), api.OK}, {fill("", "a", ""), null(), api.ErrJSON}, {fill("[1,", " ", ""), null(), api.ErrJSON}, {fill("\"", "a", "\n"), null(), api.ErrJSON}, {fill("", "\xff", ""), null(), api.ErrUTF}, {fill("\"", "a", "\"\xc3"), null(), api.ErrUTF}, {fill("1", "0", ""), null(), api.ErrRange}, {fill("0", "0", ""), null(), api.ErrJSON}, {fill("", "1", "x"), null(), api.ErrJSON},
			{fill("{\"a\":1,", " ", "\"a\":2}"), null(), api.ErrTwice}, {fill("\"", "a", `\udc00"`), null(), api.ErrAlone}, {fill("\"", "\u00e9", "a\""), text(strings.Repeat("é", most/2-2) + "a"), api.OK},
		} {
			switch {
			case len(x.s) > most:
				refuses(t, api.ErrLong, x.s)
			default:
				gives(t, x.s, x.v, x.e)
			}
		}
	}
	gives(t, " ["+strings.Repeat("0,", most/2-2)+"0]", list(slices.Repeat([]api.JSON{number("0")}, most/2-1)...), api.OK)
}

// TestParseTold: P8.1: values whose own text has MaxText bytes, and one more: numbers may have longer texts there.
func TestParseTold(t *testing.T) {
	for at, v := range sizes(1 << 20) {
		if s := strings.ReplaceAll(printed(v), "100000000000000000000", "1e20"); len(s) <= 1<<20 {
			gives(t, s, v, api.OK)
		} else {
			t.Error("P8.1: a text that is too long", at)
		}
	}
	grown := 0
	for _, v := range sizes(1<<20 + 1) {
		s := strings.ReplaceAll(printed(v), "100000000000000000000", "1e20")
		refuses(t, api.ErrLong, s)
		if len(s) < 1<<20 {
			grown++
		}
	}
	wants(t, "P8.1: values whose text is longer than theirs", grown, 1)
	refuses(t, api.ErrLong, "["+strings.Repeat("1E20,", 200_000)+"0]", "[[],{\"a\":["+strings.Repeat("1e-6,", 200_000)+"0]}]")
	gives(t, "["+strings.Repeat("1.00,", 200_000)+"1]", list(slices.Repeat([]api.JSON{number("1")}, 200_001)...), api.OK)
	refuses(t, api.ErrRange, "["+strings.Repeat("1e20,", 200_000)+"1e1001]")
	refuses(t, api.ErrAlone, "["+strings.Repeat("1e20,", 200_000)+`"\ud800"]`)
	refuses(t, api.ErrJSON, "["+strings.Repeat("1e20,", 200_000)+"]")
	refuses(t, api.ErrUTF, "["+strings.Repeat("1e20,", 200_000)+"\xff]")
}

// TestParseUTF: P8.1: bytes that are no UTF-8, in and out of quotes, whatever else is wrong.
func TestParseUTF(t *testing.T) {
	for _, s := range broken() {
		refuses(t, api.ErrUTF, s, "\""+s+"\"", "\"a"+s+"b\"", "["+s+"]", "1"+s, s+"1", "[1,"+s, "nul"+s, `{"a":1,"a":[}`+s, `{"`+s+`":1}`, `{"`+s+`":1,"`+s+`":2}`, "[[[["+s, strings.Repeat("[", 100)+s, "[1e1001"+s+"]", `"\`+s+`"`, `"\ud800`+s+`"`, `"\u00`+s+`"`, s+s, "\""+s, s+"\x00", "]"+s)
	}
	for _, s := range []string{"\u0080", "\u07ff", "\u0800", "\ud7ff", "\ue000", "\ufffd", "\uffff", "\U00010000", "\U0010ffff", "\u00ad", "e\u0301", "\u202e"} {
		gives(t, "\""+s+"\"", text(s), api.OK)
		gives(t, `{"`+s+`":["`+s+s+`"]}`, object(s, list(text(s+s))), api.OK)
		refuses(t, api.ErrJSON, s, "["+s+"]", "1"+s, s+"1", `"\`+s+`"`)
	}
}

// TestParseDeep: P8.1: depths of 0, 1, MaxDepth and one more, and far deeper ones, of a JSON text and of none.
func TestParseDeep(t *testing.T) {
	inside := func(n int, how, s string) string {
		ahead, behind := "", ""
		for i := range n {
			if how == "lists" || how == "both" && i%2 == 0 {
				ahead, behind = "["+ahead, behind+"]"
			} else {
				ahead, behind = `{"a":`+ahead, behind+"}"
			}
		}
		return ahead + s + behind
	}
	for _, how := range []string{"lists", "objects", "both"} {
		for _, n := range []int{0, 1, 2, 62, 63, 64} {
			gives(t, inside(n, how, "1"), nested(number("1"), n, how), api.OK)
			gives(t, inside(n, how, `"[{"`), nested(text("[{"), n, how), api.OK)
		}
		for _, n := range []int{0, 1, 62, 63} {
			gives(t, inside(n, how, "[]"), nested(list(), n, how), api.OK)
			gives(t, inside(n, how, "{}"), nested(object(), n, how), api.OK)
		}
		for _, n := range []int{65, 66, 128, 1000, 3000} {
			refuses(t, api.ErrDeep, inside(n, how, "1"), inside(n-1, how, "[]"), inside(n-1, how, "{}"), inside(n-2, how, "[[1,1]]"))
			refuses(t, api.ErrDeep, "[1,"+inside(n, how, "1")+",2]", `{"a":1,"b":`+inside(n, how, "null")+`,"c":2}`, inside(n, how, `"\ud800"`), inside(n, how, `{"a":1,"a":2}`), inside(n, how, "1e1001"), " "+inside(n, how, " [ ] ")+" ")
			refuses(t, api.ErrJSON, inside(n, how, ","), inside(n, how, "1 2"), inside(n, how, "1")+"]", "["+inside(n, how, "1"), inside(n, how, "1")+",", inside(n, how, "x"), inside(n, how, "[}"), inside(n, how, "{]"), inside(n, how, "{1:2}"), inside(n, how, "[1,]"), inside(n, how, `{"a":1,}`), inside(n, how, `{"a"}`), inside(n, how, `"\x"`))
			refuses(t, api.ErrUTF, inside(n, how, "\"\xff\""), inside(n, how, "1")+"\xff")
		}
	}
	flat := "[" + strings.Repeat(inside(63, "both", "1")+",", 100) + "1]"
	gives(t, flat, list(append(slices.Repeat([]api.JSON{nested(number("1"), 63, "both")}, 100), number("1"))...), api.OK)
	refuses(t, api.ErrDeep, "["+inside(64, "lists", "1")+","+inside(63, "lists", "1")+"]", "["+inside(63, "lists", "1")+","+inside(64, "objects", "1")+"]")

	const half = 1 << 19
	open, end := strings.Repeat("[", half), strings.Repeat("]", half)
	refuses(t, api.ErrDeep, open+end)
	refuses(t, api.ErrJSON, open, open+open, open+end[1:], open+end[1:]+"}", end+open, open+end[2:]+",]", strings.Repeat(`{"a":`, 200_000), strings.Repeat("[{", half), strings.Repeat("[]", half))
	refuses(t, api.ErrDeep, strings.Repeat(`{"":`, 200_000)+"1"+strings.Repeat("}", 200_000), strings.Repeat("[ ", 300_000)+strings.Repeat("]", 300_000), strings.Repeat(`[{"a":`, 100_000)+"[]"+strings.Repeat("}]", 100_000))
	refuses(t, api.ErrUTF, open+end[1:]+"\xff", open+open[1:]+"\x80")
	refuses(t, api.ErrLong, open+open+"[", open+end+" ", open+end+"\xff")
}

// TestParseOrder: P8.1: of several errors the one that is named first, in each order of their places.
func TestParseOrder(t *testing.T) {
	deep := strings.Repeat("[", 65) + strings.Repeat("]", 65)
	pieces := []struct {
		s string
		e api.Errno
	}{
		{"\xff", api.ErrUTF}, {"\"\xc3\"", api.ErrUTF}, {"x", api.ErrJSON}, {"[}", api.ErrJSON}, {deep, api.ErrDeep}, {`{"a":` + deep + "}", api.ErrDeep}, {`"\ud800"`, api.ErrAlone}, {`{"\udc00":1}`, api.ErrAlone},
		{`{"a":1,"a":2}`, api.ErrTwice}, {`[[{"b":{},"\u0062":[]}]]`, api.ErrTwice}, {"1e1001", api.ErrRange}, {`{"a":` + strings.Repeat("1", 1001) + "}", api.ErrRange}, {"1", api.OK},
	}
	rank := func(e api.Errno) int {
		return slices.Index([]api.Errno{api.ErrUTF, api.ErrJSON, api.ErrDeep, api.ErrAlone, api.ErrTwice, api.ErrRange, api.OK}, e)
	}
	for _, a := range pieces {
		refuses(t, api.ErrLong, a.s+strings.Repeat(" ", 1<<20), strings.Repeat(" ", 1<<20)+a.s)
		for _, b := range pieces {
			for _, c := range pieces {
				want := a.e
				for _, e := range []api.Errno{b.e, c.e} {
					if rank(e) < rank(want) {
						want = e
					}
				}
				for _, s := range []string{"[" + a.s + "," + b.s + "," + c.s + "]", `{"x":` + a.s + `,"y":` + b.s + `,"z":` + c.s + "}", "[[[" + a.s + "]," + b.s + "]," + c.s + "]"} {
					if want != api.OK {
						refuses(t, want, s)
					} else {
						reads(t, s)
					}
				}
			}
		}
	}
	refuses(t, api.ErrAlone, `{"\ud800":1,"\ud800":2}`, `{"a":1,"a":"\ud800"}`, `{"a":1e1001,"a":"\ud800"}`)
	refuses(t, api.ErrTwice, `{"a":1e1001,"a":1e1001}`, `[1e1001,{"a":1,"a":2}]`, `[{"a":1,"a":1e1001}]`)
	refuses(t, api.ErrJSON, `{"a":1,"a":2`, `"\ud800`, "[1e1001", "[1e1001,01]", `["\ud800",]`, deep+"]", `{"a":1,"a":2,}`)
}

// TestParseNumbers: P8.1: numbers at layer 7's edges, refused there by ErrLong and by ErrRange.
func TestParseNumbers(t *testing.T) {
	zeros, nines := func(n int) string { return strings.Repeat("0", n) }, func(n int) string { return strings.Repeat("9", n) }
	for _, s := range []string{"1e1000", "-1e1000", "1e-1000", "10e999", "0.1e1001", "0e99999", "-0.0E-99999", nines(100), nines(100) + "e1000", "1" + zeros(999), "-1" + zeros(998), "0." + zeros(997) + "1", "1e" + zeros(997) + "5", "0." + nines(100), "0." + zeros(998), "1.5e0000000000000000000001", "9007199254740993", "0.1", "1E400", "18446744073709551616", "-9223372036854775809"} {
		gives(t, s, number(s), api.OK)
		gives(t, "["+s+","+s+"]", list(number(s), number(s)), api.OK)
		gives(t, `{"a": `+s+" }", object("a", number(s)), api.OK)
	}
	for _, s := range []string{"1e1001", "-1e1001", "10e1000", "1e-1001", "0.1e-1000", nines(101), "0." + nines(101), nines(100) + "e1001", "1" + zeros(99) + "1", "1e99999999999999999999", "1e-99999999999999999999", // ErrRange there
		"1" + zeros(1000), "-1" + zeros(999), "0." + zeros(999), "0." + zeros(998) + "1", "1e" + zeros(998) + "5", "0e" + nines(999), nines(1001), nines(100_000), "-0." + zeros(100_000), "1e-" + zeros(100_000)} { // ErrLong there
		refuses(t, api.ErrRange, s, "["+s+"]", "[1,"+s+",2]", `{"a":`+s+"}", " "+s+" ", "["+s+","+s+"]")
		refuses(t, api.ErrJSON, s+".", s+"x", "["+s, s+" 1", s+"e", "0"+s, "+"+s, "["+s+",]")
		refuses(t, api.ErrDeep, strings.Repeat("[", 65)+s+strings.Repeat("]", 65))
	}
	refuses(t, api.ErrJSON, zeros(1001), zeros(1000), "-"+zeros(1001), nines(1001)+".", nines(1001)+"e+", "."+nines(1001), "1."+nines(1001)+"e", "-"+nines(1001)+"-")
	for _, s := range texts("-+.e01", 4) {
		_, e := decimal.Parse(s)
		want := api.OK
		if e != api.OK {
			want = api.ErrJSON
		}
		wants(t, "P8.1: as in layer 7: "+s, reads(t, s), want)
	}
}

// TestParseSome: P8.1: texts of no plain order, some with faults, against the model.
func TestParseSome(t *testing.T) {
	next, met := numbers(2), map[api.Errno]int{}
	for range 30_000 {
		s := loose(next, value(next, 5))
		for range next(3) * next(2) {
			at := next(len(s) + 1)
			to := min(len(s), at+next(3))
			s = s[:at] + []string{"", " ", ",", "[", "]", "{", "}", ":", "\"", "1", "\\", "\xff", "e1001", `\ud800`, "\x1f", "a"}[next(16)] + s[to:]
		}
		met[reads(t, s)]++
	}
	for _, e := range []api.Errno{api.OK, api.ErrUTF, api.ErrJSON, api.ErrAlone, api.ErrRange} {
		if met[e] < 10 {
			t.Errorf("P8.1: %d met %d times only", e, met[e])
		}
	}
}

// loose is one of a value's texts, of no plain order: with blanks, with escapes, with numbers told in other ways.
func loose(next func(int) int, v api.JSON) string {
	blank := func() string { return strings.Repeat(string(" \t\n\r"[next(4)]), next(3)*next(2)) }
	inQuotes := func(s string) string {
		out := ""
		for _, c := range s {
			switch {
			case next(3) == 0 && c > 0xffff:
				out += escaped(0xd800+int(c-0x10000)>>10, 0xdc00+int(c-0x10000)&0x3ff)
			case next(3) == 0 && c <= 0xffff && next(2) == 0:
				out += fmt.Sprintf(`\u%04X`, c)
			case next(3) == 0 && c <= 0xffff:
				out += escaped(int(c))
			case c == '/' && next(2) == 0:
				out += `\/`
			default:
				q := quoted(string(c))
				out += q[1 : len(q)-1]
			}
		}
		return `"` + out + `"`
	}
	s := ""
	switch v.Kind {
	case 2:
		n, _ := decimal.Text(v.Number)
		s = n
		if !strings.Contains(s, "e") {
			s += []string{"", "e0", "E+0", "e-000"}[next(4)]
		}
	case 3:
		s = inQuotes(v.Text)
	case 4, 5:
		var l []string
		for i, w := range v.List {
			member := loose(next, w)
			if v.Kind == 5 {
				member = blank() + inQuotes(v.Names[i]) + blank() + ":" + member
			}
			l = append(l, member)
		}
		s = string("[{"[v.Kind-4]) + blank() + strings.Join(l, ",") + string("]}"[v.Kind-4])
	default:
		s = printed(v)
	}
	return blank() + s + blank()
}
