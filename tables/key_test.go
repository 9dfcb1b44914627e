package tables_test

import (
	"bytes"
	"encoding/binary"
	"math"
	"regexp"
	"slices"
	"strconv"
	"strings"
	"testing"

	"lexicon/api"
	"lexicon/tables"
)

// key is a list of parts: strings are texts, ints numbers.
func key(l ...any) []api.Part {
	var parts []api.Part
	for _, x := range l {
		switch y := x.(type) {
		case string:
			parts = append(parts, api.Part{Text: y})
		case int:
			parts = append(parts, api.Part{Number: int64(y), Is: true})
		}
	}
	return parts
}

// bytesOf tells a row's bytes, as the chapter's words do.
func bytesOf(table string, key []api.Part) string {
	text := func(s string) string { return "\x02" + strings.ReplaceAll(s, "\x00", "\x00\xff") + "\x00\x01" }
	s := text(table)
	for _, p := range key {
		if p.Is {
			s += "\x01" + string(binary.BigEndian.AppendUint64(nil, uint64(p.Number)^1<<63))
		} else {
			s += text(p.Text)
		}
	}
	return s
}

// order is that of keys, as the chapter's words tell it.
func order(a, b []api.Part) int {
	for i := 0; i < len(a) && i < len(b); i++ {
		p, q := a[i], b[i]
		switch {
		case p.Is != q.Is && p.Is, p.Is && q.Is && p.Number < q.Number, !p.Is && !q.Is && p.Text < q.Text:
			return -1
		case p.Is != q.Is, p.Is && p.Number > q.Number, !p.Is && p.Text > q.Text:
			return 1
		}
	}
	switch {
	case len(a) < len(b):
		return -1
	case len(a) > len(b):
		return 1
	}
	return 0
}

// edges are parts that matter: texts with the bytes 0, 1 and 255, and of none; numbers at both ends, and about 0.
func edges() []api.Part {
	return key("", "\x00", "\x01", "\xff", "\x00\x00", "\x00\x01", "\x00\xff", "\x01\x00", "\xff\x00", "\x00\x01\x02", "\x01\x01", "\xff\xff",
		"a", "a\x00", "a\x00\x01", "a\x01", "ab", "a\xff", "b", "\xc3\xa9", "\xed\xa0\x80",
		math.MinInt64, math.MinInt64+1, -1<<32, -256, -255, -2, -1, 0, 1, 2, 255, 256, 1<<32, math.MaxInt64-1, math.MaxInt64)
}

// few are those of edges of which lists are made.
func few() []api.Part {
	return key("", "\x00", "\x01", "\xff", "a", math.MinInt64, -1, 0, 1, math.MaxInt64)
}

// lists are keys of one part and of two, and some of three.
func lists() [][]api.Part {
	var all [][]api.Part
	for _, p := range edges() {
		all = append(all, []api.Part{p})
	}
	for _, p := range few() {
		for _, q := range edges() {
			all = append(all, []api.Part{p, q})
		}
		for _, q := range few() {
			all = append(all, []api.Part{p, q, {Text: "a"}}, []api.Part{p, q, {Is: true}})
		}
	}
	return all
}

// bad are lists of parts that may not be, of however many bytes the table's name is.
func bad() map[string][]api.Part {
	return map[string][]api.Part{
		"a number with a text":          {{Text: "a", Number: 1, Is: true}},
		"0 with a text":                 {{Text: "a", Is: true}},
		"a text with a number":          {{Text: "a", Number: 1}},
		"no text with a number":         {{Number: -1}},
		"the second one with both":      {{Text: "a"}, {Text: "b", Number: 1, Is: true}},
		"the eighth one with both":      append(key(1, 2, 3, 4, 5, 6, 7), api.Part{Text: "a", Number: 8}),
		"9 parts":                       key(1, 2, 3, 4, 5, 6, 7, 8, 9),
		"9 parts of no bytes":           make([]api.Part, 9),
		"1000 parts":                    make([]api.Part, 1000),
		"301 bytes of a text":           key(strings.Repeat("a", 301)),
		"2^20 bytes of a text":          key(strings.Repeat("a", 1<<20)),
		"300 bytes of a text":           key(strings.Repeat("a", 300)),
		"150 noughts":                   key(strings.Repeat("\x00", 150)),
		"8 texts with too many bytes":   slices.Repeat(key(strings.Repeat("a", 40)), 8),
		"a long one among short ones":   key("a", strings.Repeat("b", 301), 1),
		"noughts at the end of a long":  key(strings.Repeat("a", 100), strings.Repeat("\x00", 100)),
		"2^40 as the number of a text":  {{Text: "", Number: 1 << 40}},
		"the least number of a text":    {{Text: "\x00", Number: math.MinInt64}},
		"a nought as a number's text":   {{Text: "\x00", Number: 0, Is: true}},
		"no UTF-8 as a number's text":   {{Text: "\xff", Number: math.MaxInt64, Is: true}},
		"a long text, and one too many": {{Text: strings.Repeat("a", 1<<16), Number: 1}},
	}
}

// names are tables' names that may be, and none such as may not.
func names() []string {
	return []string{"t", "\x00", "\xff", "a\x00", "tt", "t\x00\x01", strings.Repeat("n", 31), strings.Repeat("n", 32), strings.Repeat("\x00", 32), "\xc3"}
}

func noNames() []string {
	return []string{"", strings.Repeat("n", 33), strings.Repeat("\x00", 33), strings.Repeat("n", 1<<20)}
}

// has holds what Key and Parts tell against each other, and against the words.
func has(t *testing.T, table string, key []api.Part) {
	t.Helper()
	want := bytesOf(table, key)
	b, e := tables.Key(table, key...)
	if string(b) != want || e != api.OK {
		t.Fatalf("P6.1: Key(%q, %v): %q %v, not %q", table, key, b, e, want)
	}
	name, parts, e := tables.Parts([]byte(want))
	if name != table || !slices.Equal(parts, key) || e != api.OK {
		t.Fatalf("P6.4: Parts(%q): %q %v %v, not %q %v", want, name, parts, e, table, key)
	}
}

// TestKeys: P6.1, P6.4: ordinary rows and the edges, as bytes, and read again.
func TestKeys(t *testing.T) {
	if b, e := tables.Key("t", key("a")...); string(b) != "\x02t\x00\x01\x02a\x00\x01" || e != api.OK {
		t.Errorf("P6.1: Key(t, a): %q %v", b, e)
	}
	if b, e := tables.Key("t", key(-1, 258)...); string(b) != "\x02t\x00\x01\x01\x7f\xff\xff\xff\xff\xff\xff\xff\x01\x80\x00\x00\x00\x00\x00\x01\x02" || e != api.OK {
		t.Errorf("P6.1: Key(t, -1, 258): %q %v", b, e)
	}
	if b, e := tables.Key("\x00t", key("\x00\x00", "")...); string(b) != "\x02\x00\xfft\x00\x01\x02\x00\xff\x00\xff\x00\x01\x02\x00\x01" || e != api.OK {
		t.Errorf("P6.1: Key of noughts: %q %v", b, e)
	}
	for _, table := range names() {
		for _, key := range lists() {
			has(t, table, key)
		}
	}
	for n := 1; n <= 8; n++ {
		for _, p := range edges() {
			has(t, "t", slices.Repeat([]api.Part{p}, n))
		}
	}
}

// TestKeyBounds: P6.1: names of 0, 1, 32 and 33 bytes; 0, 1, 8 and 9 parts; 300 and 301 bytes in all, however they come together.
func TestKeyBounds(t *testing.T) {
	none := func(call, table string, key []api.Part) {
		if b, e := tables.Key(table, key...); b != nil || e != api.ErrArg {
			t.Errorf("P6.1: Key of %s: %q %v", call, b, e)
		}
	}
	for _, table := range noNames() {
		none(strconv.Itoa(len(table))+" bytes of a name", table, key("a"))
	}
	for _, table := range append(names(), noNames()...) {
		none("no parts", table, nil)
		none("no parts", table, []api.Part{})
		for call, parts := range bad() {
			none(call, table, parts)
		}
	}
	for _, table := range []string{"t", strings.Repeat("n", 32), strings.Repeat("\x00", 32)} {
		for _, ahead := range [][]api.Part{nil, key(1), key("", -5), key("\x00\x00", "b"), key(1, 2, 3, 4, 5, 6, 7), key("", "", "", "", "", "", "")} {
			for _, by := range []string{"a", "\xff"} {
				left := api.MaxKey - len(bytesOf(table, append(slices.Clone(ahead), api.Part{})))
				has(t, table, append(slices.Clone(ahead), api.Part{Text: strings.Repeat(by, left)}))
				none("301 bytes", table, append(slices.Clone(ahead), api.Part{Text: strings.Repeat(by, left+1)}))
				rest := strings.Repeat("\x00", left/2) + strings.Repeat(by, left%2)
				has(t, table, append(slices.Clone(ahead), api.Part{Text: rest}))
				none("301 bytes", table, append(slices.Clone(ahead), api.Part{Text: rest + by}))
				none("302 bytes", table, append(slices.Clone(ahead), api.Part{Text: rest + "\x00"}))
			}
		}
	}
}

// rowBytes are a row's bytes, but for bounds; each byte is a letter here.
var rowBytes = regexp.MustCompile(`^(?s)\x02((?:[^\x00]|\x00\xff)+)\x00\x01(?:\x01.{8}|\x02(?:[^\x00]|\x00\xff)*\x00\x01){1,8}$`)

// isRow tells whether some row has these bytes, by the chapter's words.
func isRow(b []byte) bool {
	if len(b) > 300 {
		return false
	}
	letters := make([]rune, len(b))
	for i, by := range b {
		letters[i] = rune(by)
	}
	// What ends a text is nowhere within one, so there is one way to read it.
	m := rowBytes.FindStringSubmatch(string(letters))
	if m == nil {
		return false
	}
	name := []rune(strings.ReplaceAll(m[1], "\u0000\u00ff", "\u0000"))
	return len(name) <= 32
}

// reads holds what Parts tells against what it has to.
func reads(t *testing.T, b []byte) {
	t.Helper()
	was := slices.Clone(b)
	name, parts, e := tables.Parts(b)
	switch {
	case !bytes.Equal(b, was):
		t.Fatalf("P6.1: Parts changes %q", was)
	case !isRow(b) && (name != "" || parts != nil || e != api.ErrArg):
		t.Fatalf("P6.1: Parts(%q), which no row has: %q %v %v", b, name, parts, e)
	case isRow(b) && (e != api.OK || bytesOf(name, parts) != string(b)):
		t.Fatalf("P6.1: Parts(%q): %q %v %v", b, name, parts, e)
	}
}

// TestNoRow: P6.1: Parts of bytes that no row has: of each few bytes, and of a row's with any one changed, gone, or one more.
func TestNoRow(t *testing.T) {
	for _, s := range []string{"", "\x01\x02\x03", "\x02", "\x02t", "\x02t\x00", "\x02t\x00\x01", "\x02\x00\x01\x02a\x00\x01", "\x02t\x00\x02\x02a\x00\x01",
		"\x03t\x00\x01\x02a\x00\x01", "\x02t\x00\x01\x03a\x00\x01", "\x02t\x00\x01\x00", "\x02t\x00\x01\x01\x80", "\x02t\x00\x01\x02a\x00", "\x02t\x00\x01\x02a\x00\x00",
		"\x02t\x00\x01\x02a\x00\x01\x00", "\x02t\x00\x01\x02a\xff\x00", "\x01\x80\x00\x00\x00\x00\x00\x00\x00\x02a\x00\x01"} {
		if isRow([]byte(s)) {
			t.Fatalf("some row has %q", s)
		}
		reads(t, []byte(s))
	}
	var all func(b []byte, left int)
	all = func(b []byte, left int) {
		reads(t, b)
		for _, by := range []byte{0, 1, 2, 255} {
			if left > 0 {
				all(append(b, by), left-1)
			}
		}
	}
	all(make([]byte, 0, 16), 7)
	all([]byte("\x02t\x00\x01"), 6)
	long := append(key(7), key(strings.Repeat("k", 300-len(bytesOf("t", key(7, "")))))...)
	for _, key := range [][]api.Part{key("a"), key(0), key(-1, "\x00b"), key("", ""), key(1, 2, 3, 4, 5, 6, 7, 8), key("", "", "", "", "", "", "", ""), long} {
		for _, table := range []string{"t", "a\x00b", strings.Repeat("n", 32)} {
			s := bytesOf(table, key)
			for i := range len(s) + 1 {
				reads(t, []byte(s[:i]))
				reads(t, []byte(s[:i]+s[min(i+1, len(s)):]))
				for _, by := range []byte{0, 1, 2, 3, 'a', 254, 255} {
					reads(t, []byte(s[:i]+string([]byte{by})+s[i:]))
					reads(t, []byte(s[:i]+string([]byte{by})+s[min(i+1, len(s)):]))
				}
			}
		}
	}
	for _, table := range append(names(), noNames()...) {
		reads(t, []byte(bytesOf(table, nil)))
		reads(t, []byte(bytesOf(table, key("a"))))
		for _, parts := range bad() {
			if both := slices.ContainsFunc(parts, func(p api.Part) bool { return p.Is && p.Text != "" || !p.Is && p.Number != 0 }); !both {
				reads(t, []byte(bytesOf(table, parts)))
			}
		}
	}
}

// TestCompare: P6.1, P6.4: the order of keys, and that of their bytes.
func TestCompare(t *testing.T) {
	all := lists()
	for _, a := range all {
		for _, b := range all {
			want := order(a, b)
			if got := tables.Compare(a, b); got != want {
				t.Fatalf("P6.1: Compare(%v, %v): %d, not %d", a, b, got, want)
			}
			x, _ := tables.Key("t", a...)
			y, _ := tables.Key("t", b...)
			if got := bytes.Compare(x, y); got != want {
				t.Fatalf("P6.4: the bytes of %v and %v: %d, not %d", a, b, got, want)
			}
		}
	}
	for i, c := range []struct {
		a, b []api.Part
		want int
	}{
		{nil, nil, 0},
		{nil, []api.Part{}, 0},
		{nil, key(""), -1},
		{key(math.MinInt64), nil, 1},
		{key("a"), key("a", math.MinInt64), -1},
		{key("a", 1, ""), key("a", 1), 1},
		{key("a", 2), key("a", 1, "x"), 1},
		{key(math.MaxInt64), key(""), -1},
		{key(""), key(math.MinInt64), 1},
		{key(math.MinInt64), key(math.MaxInt64), -1},
		{key(-1), key(0), -1},
		{key("\xff"), key("a"), 1},
		{key("a"), key("\xc3\xa9"), -1},
		{key("10"), key("9"), -1},
		{make([]api.Part, 20), make([]api.Part, 21), -1},
		{key(strings.Repeat("a", 1000)), key(strings.Repeat("a", 1000) + "\x00"), -1},
		// of a number only the Number counts, of a text only the Text
		{[]api.Part{{Text: "z", Number: 1, Is: true}}, []api.Part{{Text: "a", Number: 2, Is: true}}, -1},
		{[]api.Part{{Text: "z", Number: 1, Is: true}}, []api.Part{{Text: "a", Number: 1, Is: true}}, 0},
		{[]api.Part{{Text: "z", Number: 1, Is: true}, {Text: "a"}}, key(1, "b"), -1},
		{[]api.Part{{Text: "a", Number: 9}}, []api.Part{{Text: "b", Number: 1}}, -1},
		{[]api.Part{{Text: "a", Number: 9}}, []api.Part{{Text: "a", Number: 1}}, 0},
		{[]api.Part{{Text: "a", Number: 9}}, key(9), 1},
		{[]api.Part{{Text: "b", Number: 9, Is: true}}, []api.Part{{Text: "a", Number: -9}}, -1},
	} {
		if got, back := tables.Compare(c.a, c.b), tables.Compare(c.b, c.a); got != c.want || back != -c.want {
			t.Errorf("P6.1: Compare %d, %v and %v: %d, and back %d, not %d", i, c.a, c.b, got, back, c.want)
		}
	}
}

// TestKeyMemory: what is handed in is not changed and not kept, spare room behind it included; answers are new memory.
func TestKeyMemory(t *testing.T) {
	parts := append(key("a", 1, "c"), key("spare")...)
	b, _ := tables.Key("t", parts[:2]...)
	c, _ := tables.Key("t", parts[:2]...)
	clear(b)
	_ = append(b, 'x')
	if string(c) != bytesOf("t", key("a", 1)) || !slices.Equal(parts, key("a", 1, "c", "spare")) {
		t.Errorf("P6.1: Key keeps, or changes, what it is handed, or tells one memory twice")
	}
	name, p, _ := tables.Parts(c[:len(c):len(c)])
	_, q, _ := tables.Parts(c)
	clear(c)
	p[1].Number = 5
	if name != "t" || !slices.Equal(p, key("a", 5)) || !slices.Equal(q, key("a", 1)) {
		t.Errorf("P6.1: Parts keeps what it is handed, or tells one memory twice: %q %v %v", name, p, q)
	}
	tables.Compare(parts[:1], parts[:2])
	if !slices.Equal(parts, key("a", 1, "c", "spare")) {
		t.Errorf("P6.1: Compare changes what it is handed: %v", parts)
	}
}
