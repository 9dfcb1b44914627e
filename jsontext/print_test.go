package jsontext_test

import (
	"fmt"
	"strings"
	"testing"
	"unicode/utf8"

	"lexicon/api"
	"lexicon/jsontext"
)

// prints complains if Print answers anything but what is wanted.
func prints(t *testing.T, v api.JSON, want string) {
	t.Helper()
	if s := string(jsontext.Print(v)); s != want {
		t.Errorf("P8.2: Print of %s: %.200q (%d bytes), not %.200q (%d bytes)", brief(v), s, len(s), want, len(want))
	}
}

// TestPrint: P8.2: the text of each kind of value, and of values in one another.
func TestPrint(t *testing.T) {
	prints(t, object("b", number("1.50"), "a", text("x\né\x01")), `{"b":1.5,"a":"x\né\u0001"}`)
	for _, x := range []struct {
		v    api.JSON
		want string
	}{
		{null(), "null"}, {yes(), "true"}, {no(), "false"}, {number("0"), "0"}, {number("-0"), "0"}, {number("-1.50"), "-1.5"}, {number("1e20"), "100000000000000000000"}, {number("1e21"), "1e21"}, {number("1e-7"), "1e-7"}, {number("12e-7"), "0.0000012"}, {text(""), `""`}, {text("a b"), `"a b"`}, {list(), "[]"}, {object(), "{}"},
		{list(null()), "[null]"}, {list(null(), yes(), no()), "[null,true,false]"}, {list(list(), list(list()), object()), "[[],[[]],{}]"}, {list(number("1"), number("2"), number("3")), "[1,2,3]"}, {object("", null()), `{"":null}`}, {object("a", number("1")), `{"a":1}`}, {object("b", number("1"), "a", number("2"), "c", list(text("c"))), `{"b":1,"a":2,"c":["c"]}`},
		{object("a\"\n", text("a\"\n")), `{"a\"\n":"a\"\n"}`}, {object("\x01", object("/", text("/"))), `{"\u0001":{"/":"/"}}`}, {list(text("[,]"), text("{:}")), `["[,]","{:}"]`}, {api.JSON{Kind: api.JSONText, Names: []string{}, List: []api.JSON{}}, `""`},
	} {
		prints(t, x.v, x.want)
	}
	for _, v := range rights() {
		prints(t, v, printed(v))
	}
	for _, v := range append(wrongs(), deeps()...) {
		prints(t, v, "")
		prints(t, list(null(), v), "")
		prints(t, object("a", v), "")
	}
	for _, v := range sizes(1 << 20) {
		prints(t, v, printed(v))
	}
	for _, v := range sizes(1<<20 + 1) {
		prints(t, v, "")
	}
	if jsontext.Print(api.JSON{Kind: 7}) != nil {
		t.Error("P8.2: Print of what may not be is something")
	}
	next := numbers(3)
	for range 20_000 {
		v := anyValue(next, 4)
		want := ""
		if checked(v) == api.OK {
			want = printed(v)
		}
		prints(t, v, want)
	}
}

// quotes complains if Quote answers anything but what is wanted, or if Print tells a text or a name in another way.
func quotes(t *testing.T, s, want string) {
	t.Helper()
	if q, e := jsontext.Quote(s); q != want || e != api.OK {
		t.Errorf("P8.2: Quote of %.100q: %.100q, %d, not %.100q", s, q, e, want)
	}
	if len(want) < 1<<19 {
		prints(t, text(s), want)
		prints(t, object(s, text(s)), "{"+want+":"+want+"}")
	}
}

// TestQuote: P8.2: each letter, those that have a \ ahead, those that have four digits, and all others.
func TestQuote(t *testing.T) {
	quotes(t, "", `""`)
	quotes(t, `"a\`, `"\"a\\"`)
	quotes(t, "x\né\x01", `"x\né\u0001"`)
	quotes(t, "\b\t\n\f\r", `"\b\t\n\f\r"`)
	quotes(t, "\x00\x07\x0b\x0e\x0f\x10\x19\x1a\x1f", `"\u0000\u0007\u000b\u000e\u000f\u0010\u0019\u001a\u001f"`)
	quotes(t, " /'<>&\u007f", "\" /'<>&\u007f\"")
	quotes(t, "\u0080\u009f\u2028\u2029\ufeff\ufffd\uffff\U00010000\U0010ffff", "\"\u0080\u009f\u2028\u2029\ufeff\ufffd\uffff\U00010000\U0010ffff\"")
	quotes(t, "\ufffd", "\"\ufffd\"")
	quotes(t, `\u0041`, `"\\u0041"`)
	short := map[rune]string{8: `\b`, 9: `\t`, 10: `\n`, 12: `\f`, 13: `\r`, '"': `\"`, '\\': `\\`}
	for c := range rune(0x3000) {
		want := string(c)
		if s, ok := short[c]; ok {
			want = s
		} else if c < 32 {
			want = `\u00` + fmt.Sprintf("%02x", c)
		}
		for _, in := range []string{"*", "a*", "*a", "é*é", "**", "\n*\"", "a*b*c"} {
			quotes(t, strings.ReplaceAll(in, "*", string(c)), `"`+strings.ReplaceAll(strings.NewReplacer("\n", `\n`, `"`, `\"`).Replace(in), "*", want)+`"`)
		}
	}
	for c := rune(0x3000); c <= utf8.MaxRune; c += 97 {
		if c < 0xd800 || c >= 0xe000 {
			quotes(t, "a"+string(c)+"b", `"a`+string(c)+`b"`)
		}
	}
}

// TestQuoteWrong: P8.2: texts of MaxText bytes and of one more, and bytes that are no UTF-8.
func TestQuoteWrong(t *testing.T) {
	const most = 1 << 20
	refused := func(s string, want api.Errno) {
		t.Helper()
		if q, e := jsontext.Quote(s); q != "" || e != want {
			t.Errorf("P8.2: Quote of %.50q (%d bytes): %.50q, %d, not %d", s, len(s), q, e, want)
		}
	}
	for _, s := range broken() {
		refused(s, api.ErrUTF)
		refused("a\n"+s, api.ErrUTF)
		refused(s+"\"", api.ErrUTF)
		refused(strings.Repeat("a", most-len(s))+s, api.ErrUTF)
		refused(strings.Repeat("a", most+1-len(s))+s, api.ErrLong)
		refused(s+strings.Repeat("a", most), api.ErrLong)
	}
	for _, one := range []string{"a", "\"", "\n", "\x01", "\u007f"} {
		quotes(t, strings.Repeat(one, most), quoted(strings.Repeat(one, most)))
		refused(strings.Repeat(one, most+1), api.ErrLong)
		refused(strings.Repeat(one, most*4), api.ErrLong)
	}
	quotes(t, strings.Repeat("é", most/2), quoted(strings.Repeat("é", most/2)))
	refused(strings.Repeat("é", most/2)+"a", api.ErrLong)
	quotes(t, strings.Repeat("\U0001f600", most/4), quoted(strings.Repeat("\U0001f600", most/4)))
}
