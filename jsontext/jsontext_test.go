package jsontext_test

import (
	"fmt"
	"math"
	"slices"
	"strings"
	"testing"
	"unicode/utf8"

	"lexicon/api"
	"lexicon/decimal"
	"lexicon/jsontext"
)

// wants complains of an answer that is another one than the one that is wanted.
func wants[T comparable](t *testing.T, call string, got, want T) {
	t.Helper()
	if got != want {
		t.Errorf("%s: %v, not %v", call, got, want)
	}
}

// numbers tells pseudo-random numbers from 0 to n - 1.
func numbers(seed uint64) func(n int) int {
	return func(n int) int {
		seed = seed*6364136223846793005 + 1442695040888963407
		return int(seed >> 33 % uint64(n))
	}
}

// null, yes, no are the values that have no more to them.
func null() api.JSON { return api.JSON{} }
func yes() api.JSON  { return api.JSON{Kind: api.JSONBool, Bool: true} }
func no() api.JSON   { return api.JSON{Kind: api.JSONBool} }

// number is a number's value.
func number(text string) api.JSON {
	d, e := decimal.Parse(text)
	if e != api.OK {
		panic("no number: " + text)
	}
	return api.JSON{Kind: api.JSONNumber, Number: d}
}

// text is a text's value.
func text(s string) api.JSON { return api.JSON{Kind: api.JSONText, Text: s} }

// list is a list's value.
func list(l ...api.JSON) api.JSON { return api.JSON{Kind: api.JSONList, List: l} }

// object is an object's value, of names, each with its value behind it.
func object(l ...any) api.JSON {
	v := api.JSON{Kind: api.JSONObject}
	for i := 0; i < len(l); i += 2 {
		v.Names = append(v.Names, l[i].(string))
		v.List = append(v.List, l[i+1].(api.JSON))
	}
	return v
}

// nested is a value in so many lists, or objects, or both by turns.
func nested(v api.JSON, depth int, how string) api.JSON {
	for i := range depth {
		if how == "lists" || how == "both" && i%2 == 0 {
			v = list(v)
		} else {
			v = object("a", v)
		}
	}
	return v
}

// alike tells whether two values are the same in all fields, members and values in order.
func alike(a, b api.JSON) bool {
	return a.Kind == b.Kind && a.Bool == b.Bool && a.Number == b.Number && a.Text == b.Text && slices.Equal(a.Names, b.Names) && slices.EqualFunc(a.List, b.List, alike)
}

// brief is a value for a message.
func brief(v api.JSON) string { return fmt.Sprintf("%.200s", fmt.Sprintf("%+v", v)) }

// bad tells whether a value is ErrArg, by the chapter's words.
func bad(v api.JSON) bool {
	wrong := v.Kind < 0 || v.Kind > 5 || v.Bool && v.Kind != 1 || v.Number != api.Decimal{} && v.Kind != 2 || v.Text != "" && v.Kind != 3 || len(v.List) > 0 && v.Kind != 4 && v.Kind != 5 || len(v.Names) > 0 && v.Kind != 5
	wrong = wrong || decimal.Check(v.Number) != api.OK || !utf8.ValidString(v.Text) || v.Kind == 5 && len(v.Names) != len(v.List)
	for i, name := range v.Names {
		wrong = wrong || !utf8.ValidString(name) || slices.Contains(v.Names[:i], name)
	}
	return wrong || slices.ContainsFunc(v.List, bad)
}

// deep is a value's depth, by the chapter's words.
func deep(v api.JSON) int {
	if v.Kind < 4 {
		return 0
	}
	n := 0
	for _, w := range v.List {
		n = max(n, deep(w))
	}
	return n + 1
}

// printed is a value's text, by the chapter's words.
func printed(v api.JSON) string {
	switch v.Kind {
	case 0:
		return "null"
	case 1:
		return fmt.Sprint(v.Bool)
	case 2:
		s, _ := decimal.Text(v.Number)
		return s
	case 3:
		return quoted(v.Text)
	}
	var l []string
	for i, w := range v.List {
		if v.Kind == 4 {
			l = append(l, printed(w))
		} else {
			l = append(l, quoted(v.Names[i])+":"+printed(w))
		}
	}
	if v.Kind == 4 {
		return "[" + strings.Join(l, ",") + "]"
	}
	return "{" + strings.Join(l, ",") + "}"
}

// quoted is a text in quotes, by the chapter's words.
func quoted(s string) string {
	var b strings.Builder
	for _, c := range s {
		switch {
		case c == '"':
			b.WriteString(`\"`)
		case c == '\\':
			b.WriteString(`\\`)
		case c == 8:
			b.WriteString(`\b`)
		case c == 9:
			b.WriteString(`\t`)
		case c == 10:
			b.WriteString(`\n`)
		case c == 12:
			b.WriteString(`\f`)
		case c == 13:
			b.WriteString(`\r`)
		case c < 32:
			fmt.Fprintf(&b, `\u%04x`, c)
		default:
			b.WriteRune(c)
		}
	}
	return `"` + b.String() + `"`
}

// checked is what the chapter's words ask of Check.
func checked(v api.JSON) api.Errno {
	switch {
	case bad(v):
		return api.ErrArg
	case deep(v) > 64:
		return api.ErrDeep
	case len(printed(v)) > 1<<20:
		return api.ErrLong
	}
	return api.OK
}

// wrongs are values that are ErrArg, each by one reason.
func wrongs() []api.JSON {
	one, nan := api.Decimal{Digits: "1"}, api.Decimal{Digits: "10"}
	l := []api.JSON{
		{Kind: -1}, {Kind: 6}, {Kind: 9}, {Kind: math.MinInt}, {Kind: math.MaxInt}, {Kind: 256}, {Kind: 1 << 32}, {Kind: -1, List: []api.JSON{{}}}, {Kind: 6, List: []api.JSON{{}}}, {Kind: 6, Names: []string{"a"}, List: []api.JSON{{}}},
		{Bool: true}, {Number: one}, {Text: "a"}, {List: []api.JSON{{}}}, {Names: []string{""}}, {Names: []string{"a"}, List: []api.JSON{{}}},
		{Kind: 1, Number: one}, {Kind: 1, Bool: true, Text: "a"}, {Kind: 1, List: []api.JSON{{}}}, {Kind: 1, Bool: true, Names: []string{"a"}},
		{Kind: 2, Bool: true}, {Kind: 2, Text: "1"}, {Kind: 2, Number: one, List: []api.JSON{{}}}, {Kind: 2, Number: one, Names: []string{""}},
		{Kind: 3, Bool: true}, {Kind: 3, Text: "1", Number: one}, {Kind: 3, List: []api.JSON{{}}}, {Kind: 3, Text: "a", Names: []string{"a"}},
		{Kind: 4, Bool: true}, {Kind: 4, Number: one}, {Kind: 4, Text: "a", List: []api.JSON{{}}}, {Kind: 4, Names: []string{""}}, {Kind: 4, Names: []string{"a"}, List: []api.JSON{{}}},
		{Kind: 5, Bool: true}, {Kind: 5, Number: one, Names: []string{"a"}, List: []api.JSON{{}}}, {Kind: 5, Text: "a"},
		{Kind: 5, Names: []string{"a"}}, {Kind: 5, List: []api.JSON{{}}}, {Kind: 5, Names: []string{"a", "b"}, List: []api.JSON{{}}}, {Kind: 5, Names: []string{"a"}, List: []api.JSON{{}, {}}},
		{Kind: 5, Names: []string{"a", "a"}, List: []api.JSON{{}, {}}}, {Kind: 5, Names: []string{"a", "b", "a"}, List: []api.JSON{{}, {}, {}}}, {Kind: 5, Names: []string{"", ""}, List: []api.JSON{{}, {}}}, {Kind: 5, Names: []string{"b", "a", "c", "a"}, List: []api.JSON{{}, {}, {}, {}}},
		{Kind: 2, Number: nan}, {Kind: 2, Number: api.Decimal{Neg: true}}, {Kind: 2, Number: api.Decimal{Exp: 1}}, {Kind: 2, Number: api.Decimal{Digits: "1", Exp: 1001}}, {Kind: 2, Number: api.Decimal{Digits: strings.Repeat("1", 101)}}, {Kind: 2, Number: api.Decimal{Digits: "1.5"}}, {Kind: 2, Number: api.Decimal{Digits: "1", Exp: math.MinInt}},
		{Number: nan}, {Number: api.Decimal{Neg: true}}, {Kind: 1, Number: api.Decimal{Exp: 1}}, {Kind: 4, Number: api.Decimal{Exp: -1}},
	}
	for _, s := range broken() {
		l = append(l, text(s), object(s, null()), object("a", null(), s, yes()), object("a", text(s)), api.JSON{Text: s}, api.JSON{Kind: 4, Text: s})
	}
	return l
}

// broken are texts that are no UTF-8.
func broken() []string {
	return []string{"\xff", "\x80", "a\xc3", "\xc3a", "\xc0\x80", "\xc1\xbf", "\xe0\x80\x80", "\xe0\x9f\xbf", "\xed\xa0\x80", "\xed\xbf\xbf", "\xed\xa0\xbd\xed\xb8\x80", "\xf0\x80\x80\x80", "\xf0\x8f\xbf\xbf", "\xf4\x90\x80\x80", "\xf8\x88\x80\x80\x80", "\xe2\x82", "\xf0\x9f\x98", "\xfe", "é\xe9", "\xa0"}
}

// rights are values that may be.
func rights() []api.JSON {
	l := []api.JSON{
		null(), yes(), no(), number("0"), number("1"), number("-5e-1"), number("1e1000"), number("1e-1000"), number("-" + strings.Repeat("9", 100)), text(""), text("a"), text("é\U0001f600\u007f\u0000\u001f\ufeff\ufffd\u2028/\"\\"), list(), object(),
		{Kind: 3, List: []api.JSON{}, Names: []string{}}, {List: []api.JSON{}, Names: []string{}}, {Kind: 4, List: []api.JSON{}, Names: []string{}}, {Kind: 5, List: []api.JSON{}, Names: []string{}}, {Kind: 5, Names: []string{}},
		list(null(), null()), list(list(), list()), list(yes(), no(), number("1.50"), text("x")), object("", null()), object("a", null(), "A", null(), "aa", null()), object("b", number("1"), "a", list(object("a", list(text("a"))))),
		object("\x00", null(), "\u00e9", yes(), "e\u0301", no()), list(object("a", null()), object("a", null())), object("a", object("a", object("a", null()))),
	}
	for _, how := range []string{"lists", "objects", "both"} {
		l = append(l, nested(null(), 1, how), nested(list(), 62, how), nested(list(), 63, how), nested(object(), 63, how), nested(null(), 64, how), nested(text("a"), 64, how))
	}
	return l
}

// deeps are values that are ErrDeep.
func deeps() []api.JSON {
	var l []api.JSON
	for _, how := range []string{"lists", "objects", "both"} {
		l = append(l, nested(null(), 65, how), nested(list(), 64, how), nested(object(), 64, how), nested(number("1"), 66, how), nested(null(), 1000, how), list(null(), nested(null(), 64, how)), object("a", nested(null(), 64, how), "b", null()), list(nested(list(), 63, how), nested(list(), 64, how)))
	}
	return append(l, nested(null(), 1<<16, "lists"), nested(null(), 1<<16, "objects"), nested(list(), 1<<16-1, "both"))
}

// sizes are values whose texts have that many bytes.
func sizes(n int) []api.JSON {
	a := func(n int) string { return strings.Repeat("a", n) }
	fill := func(open string, many int, v func() api.JSON, rest func(n int) api.JSON) api.JSON {
		var l []api.JSON
		for range many {
			l = append(l, v())
		}
		l = append(l, null())
		l[many] = rest(n - len(printed(list(l...))) + len("null"))
		if open == "[" {
			return list(l...)
		}
		return object("a", list(l...))
	}
	filled := func(n int) api.JSON { return text(a(n - 2)) }
	number20 := func() api.JSON { return number("1e20") }
	v := fill("[", 1000, func() api.JSON { return object("a", null(), "é\x01", number("-0.5")) }, filled)
	return []api.JSON{
		text(a(n - 2)), text(strings.Repeat("\x01", (n-2)/6) + a((n-2)%6)), text(strings.Repeat("\"", (n-2)/2) + a(n%2)), text(strings.Repeat("\n", (n-2)/2) + a(n%2)), text(strings.Repeat("é", (n-2)/2) + a(n%2)), text(strings.Repeat("\u007f", n-2)), text(strings.Repeat("/", n-2)), text(a((n-2)%4) + strings.Repeat("\U0001f600", (n-2)/4)),
		list(text(a(n-6)), number("1")), object(a(n-6), number("1")), object(strings.Repeat("\\", (n-6)/2)+a(n%2), number("1")), object(a(n/2), text(a(n-n/2-7))), object("a", text(a(n-17)), "b", null()),
		nested(text(a(n-2-2*64)), 64, "lists"), nested(text(a(n-2-6*64)), 64, "objects"), fill("[", 47000, number20, filled), fill("[", 200_000, null, filled), v,
	}
}

// TestSizes: the tests' own values have the sizes that they are to have.
func TestSizes(t *testing.T) {
	for _, n := range []int{1 << 20, 1<<20 + 1} {
		for i, v := range sizes(n) {
			if got := len(printed(v)); got != n {
				t.Errorf("the text of value %d has %d bytes, not %d", i, got, n)
			}
		}
	}
}

// checks complains if Check answers anything but what is wanted.
func checks(t *testing.T, v api.JSON, want api.Errno) {
	t.Helper()
	if e := jsontext.Check(v); e != want {
		t.Errorf("P8.2: Check of %s: %d, not %d", brief(v), e, want)
	}
}

// TestCheck: P8.2: each reason for which a value may not be, at the face and deep inside, ahead of its depth and its text's length.
func TestCheck(t *testing.T) {
	for _, v := range rights() {
		checks(t, v, api.OK)
	}
	long := text(strings.Repeat("a", 1<<20))
	for _, v := range wrongs() {
		checks(t, v, api.ErrArg)
		checks(t, list(v), api.ErrArg)
		checks(t, list(null(), v, null()), api.ErrArg)
		checks(t, object("a", v), api.ErrArg)
		checks(t, object("a", null(), "b", v, "c", null()), api.ErrArg)
		checks(t, list(list(), object("a", list(null(), v))), api.ErrArg)
		checks(t, nested(v, 64, "both"), api.ErrArg)
		checks(t, nested(v, 65, "lists"), api.ErrArg)
		checks(t, list(long, v), api.ErrArg)
		checks(t, list(v, long), api.ErrArg)
		checks(t, list(nested(v, 100, "objects"), long), api.ErrArg)
		checks(t, list(nested(null(), 100, "lists"), long, v), api.ErrArg)
	}
	checks(t, nested(api.JSON{Kind: 6}, 1<<16-1, "both"), api.ErrArg)
	checks(t, nested(text("\xff"), 1<<16-1, "lists"), api.ErrArg)
	for _, v := range deeps() {
		checks(t, v, api.ErrDeep)
	}
	checks(t, list(long, nested(null(), 64, "lists")), api.ErrDeep)
	checks(t, list(nested(null(), 64, "objects"), long), api.ErrDeep)
	checks(t, nested(long, 65, "both"), api.ErrDeep)
	for _, v := range sizes(1 << 20) {
		checks(t, v, api.OK)
	}
	for _, v := range sizes(1<<20 + 1) {
		checks(t, v, api.ErrLong)
	}
	checks(t, long, api.ErrLong)
	checks(t, text(strings.Repeat("\x01", 1<<22)), api.ErrLong)
	checks(t, nested(long, 64, "both"), api.ErrLong)
	checks(t, list(slices.Repeat([]api.JSON{null()}, 1<<18)...), api.ErrLong)
	checks(t, object(strings.Repeat("a", 1<<20), null()), api.ErrLong)
}

// TestNames: P8.2: an object of many names may be, unless two are alike.
func TestNames(t *testing.T) {
	v := api.JSON{Kind: api.JSONObject}
	for i := range 60_000 {
		v.Names, v.List = append(v.Names, fmt.Sprint(i)), append(v.List, null())
	}
	checks(t, v, api.OK)
	v.Names[50_000] = "7"
	checks(t, v, api.ErrArg)
	v.Names[50_000] = "x\xff"
	checks(t, v, api.ErrArg)
}

// TestCheckSome: P8.2: values of no plain order, with fields of no plain order, against the chapter's words.
func TestCheckSome(t *testing.T) {
	next, met := numbers(1), map[api.Errno]int{}
	for range 100_000 {
		v := anyValue(next, 4)
		want := checked(v)
		checks(t, v, want)
		met[want]++
	}
	if met[api.OK] < 10_000 || met[api.ErrArg] < 10_000 {
		t.Error("P8.2: values of one sort only", met)
	}
}

// anyValue is a value of no plain order; some may not be.
func anyValue(next func(int) int, depth int) api.JSON {
	v := value(next, depth)
	for range next(3) * next(2) {
		at := &v
		for len(at.List) > 0 && next(4) > 0 {
			at = &at.List[next(len(at.List))]
		}
		switch next(8) {
		case 0:
			at.Kind = api.JSONKind(next(9) - 1)
		case 1:
			at.Bool = !at.Bool
		case 2:
			at.Number = api.Decimal{Neg: next(2) == 0, Digits: []string{"", "1", "10", "0", "a"}[next(5)], Exp: next(3)}
		case 3:
			at.Text = []string{"", "a", "\xff"}[next(3)]
		case 4:
			at.List = append(at.List, null())
		case 5:
			at.Names = append(at.Names, []string{"", "a", "b", "\xff"}[next(4)])
		case 6:
			at.Names, at.List = append(at.Names, "a"), append(at.List, null())
		case 7:
			at.List = at.List[:len(at.List)/2]
		}
	}
	return v
}

// value is a value of no plain order that may be, of at most that depth.
func value(next func(int) int, depth int) api.JSON {
	kind := next(6)
	if depth == 0 {
		kind = next(4)
	}
	switch kind {
	case 0:
		return null()
	case 1:
		return api.JSON{Kind: api.JSONBool, Bool: next(2) == 0}
	case 2:
		return number([]string{"", "-"}[next(2)] + []string{"0", "1", "12", "5e-1", "1e20", "1e21", "1e-7", "123.456", "1e1000", "9007199254740993"}[next(10)])
	case 3:
		return text(letters(next))
	}
	v := api.JSON{Kind: api.JSONKind(kind)}
	for range next(5) {
		name := letters(next)
		if slices.Contains(v.Names, name) {
			continue
		}
		if kind == 5 {
			v.Names = append(v.Names, name)
		}
		v.List = append(v.List, value(next, depth-1))
	}
	return v
}

// letters is a text of no plain order.
func letters(next func(int) int) string {
	s := ""
	for range next(4) * next(2) {
		s += []string{"a", "b", "ab", "~", "/", "0", "1", "\"", "\\", "\n", "\x00", "\x1f", "\x7f", "é", "\u2028", "\ud7ff", "\ue000", "\uffff", "\U00010000", "\U0001f600", "\U0010ffff", "ud800"}[next(22)]
	}
	return s
}
