package jsontext_test

import (
	"bytes"
	"encoding/json"
	"strconv"
	"strings"
	"testing"
	"unsafe"

	"lexicon/api"
	"lexicon/decimal"
	"lexicon/jsontext"
)

// some tells values that may be: those of the tests, and some of no plain order.
func some(seed uint64, many int) []api.JSON {
	l, next := append(rights(), sizes(1<<20)...), numbers(seed)
	for range many {
		l = append(l, value(next, 5))
	}
	return l
}

// TestParsePrint: P8.5: Parse of Print is the value.
func TestParsePrint(t *testing.T) {
	for _, v := range some(8, 10_000) {
		b := jsontext.Print(v)
		if back, e := jsontext.Parse(b); e != api.OK || !alike(back, v) {
			t.Errorf("P8.5: Parse of Print of %s: %s, %d", brief(v), brief(back), e)
		}
	}
	for _, s := range []string{"", "a", "\"\\/\b\f\n\r\t\x00\x1f\x7f", "é\u2028\ud7ff\ue000\ufffd\uffff\U00010000\U0010ffff", `\u0041\n`, "ud83d"} {
		q, _ := jsontext.Quote(s)
		if v, e := jsontext.Parse([]byte(q)); e != api.OK || !alike(v, text(s)) {
			t.Errorf("P8.5: Parse of Quote of %q: %s, %d", s, brief(v), e)
		}
	}
}

// TestPrintParse: P8.5: Print of Parse is a text that tells the same, and is its own text again.
func TestPrintParse(t *testing.T) {
	next := numbers(9)
	for range 10_000 {
		s := loose(next, value(next, 5))
		v, e := jsontext.Parse([]byte(s))
		if e != api.OK {
			t.Errorf("P8.5: Parse of %.200q: %d", s, e)
			continue
		}
		once := jsontext.Print(v)
		if want, _ := read([]byte(s)); !alike(v, want) || !json.Valid(once) || string(once) != printed(want) {
			t.Errorf("P8.5: Print of Parse of %.200q: %.200q", s, once)
		}
		again, e := jsontext.Parse(once)
		if twice := jsontext.Print(again); e != api.OK || !bytes.Equal(once, twice) {
			t.Errorf("P8.5: Print of Parse of %.200q: %.200q", once, twice)
		}
	}
}

// TestWhatIsParsed: P8.5: what Parse answers may be, however its numbers are written.
func TestWhatIsParsed(t *testing.T) {
	for _, many := range []int{1000, 40_000, 47_661, 47_662, 47_663, 47_664, 60_000, 200_000} {
		s := "[" + strings.Repeat("1e20,", many) + "0]"
		v, e := jsontext.Parse([]byte(s))
		want := api.OK
		if 22*many+3 > 1<<20 {
			want = api.ErrLong
		}
		wants(t, "P8.5: Parse of "+strconv.Itoa(many)+" numbers that grow", e, want)
		if e == api.OK {
			wants(t, "P8.5: Check of Parse", jsontext.Check(v), api.OK)
			wants(t, "P8.5: Print of Parse", len(jsontext.Print(v)), 22*many+3)
		}
	}
}

// TestSortedLaws: P8.5: Sorted has one text for all values that are Equal: Equal is just that Print of Sorted are the same bytes.
func TestSortedLaws(t *testing.T) {
	next, met := numbers(10), map[bool]int{}
	l := rights()
	for range 3000 {
		l = append(l, value(next, 5))
	}
	for i, a := range l {
		s := jsontext.Sorted(a)
		if !jsontext.Equal(a, s) || jsontext.Check(s) != api.OK || jsontext.Depth(s) != jsontext.Depth(a) || !alike(jsontext.Sorted(s), s) {
			t.Errorf("P8.5: Sorted of %s: %s", brief(a), brief(s))
		}
		others := []api.JSON{shuffled(next, a), l[next(len(l))], l[(i+1)%len(l)]}
		if i > len(l)-3000 {
			others = append(others, value(next, 1), changed(next, a), changed(next, shuffled(next, a)))
		}
		for _, b := range others {
			same := bytes.Equal(jsontext.Print(s), jsontext.Print(jsontext.Sorted(b)))
			if jsontext.Equal(a, b) != same {
				t.Errorf("P8.5: Equal of %s and %s is not %t", brief(a), brief(b), same)
			}
			met[same]++
		}
	}
	if met[true] < 3000 || met[false] < 3000 {
		t.Error("P8.5: values of one sort only", met)
	}
}

// changed is a value with one thing in it changed.
func changed(next func(int) int, v api.JSON) api.JSON {
	v = shuffled(func(n int) int { return n - 1 }, v)
	at := &v
	for len(at.List) > 0 && next(4) > 0 {
		at = &at.List[next(len(at.List))]
	}
	switch {
	case at.Kind == api.JSONObject && len(at.Names) > 0 && next(2) == 0:
		at.Names[next(len(at.Names))] += "'"
	case len(at.List) > 1 && at.Kind == api.JSONList:
		at.List[0], at.List[1] = at.List[1], at.List[0]
	default:
		*at = value(next, 1)
	}
	return v
}

// TestAllLaws: P8.5: what All goes over is what Get, Pointer tell.
func TestAllLaws(t *testing.T) {
	next := numbers(12)
	for range 10_000 {
		v := value(next, 4)
		n := 0
		for name, w := range jsontext.All(v) {
			n++
			m, ok := jsontext.Get(v, name)
			if ok != (v.Kind == api.JSONObject) || ok && !alike(m, w) {
				t.Errorf("P8.5: Get of %s by %q: %s, %t", brief(v), name, brief(m), ok)
			}
			path := "/" + strings.ReplaceAll(strings.ReplaceAll(name, "~", "~0"), "/", "~1")
			if p, e := jsontext.Pointer(v, path); e != api.OK || !alike(p, w) {
				t.Errorf("P8.5: Pointer of %s by %q: %s, %d", brief(v), path, brief(p), e)
			}
		}
		wants(t, "P8.5: All goes over as many", n, len(v.List))
	}
}

// scribble spoils all that a value's lists have, and the room behind it.
func scribble(v api.JSON, by string) {
	for i := range v.List {
		scribble(v.List[i], by)
	}
	l, names := v.List[:cap(v.List)], v.Names[:cap(v.Names)]
	for i := range l {
		l[i] = text(by)
	}
	for i := range names {
		names[i] = by
	}
}

// spoilt counts how much of a value's lists, and of the room behind it, is another thing than what scribble left there.
func spoilt(v api.JSON, by string) int {
	n := 0
	for _, w := range v.List[:cap(v.List)] {
		if w.Kind != api.JSONText || w.Text != by {
			n++
		}
	}
	for _, name := range v.Names[:cap(v.Names)] {
		if name != by {
			n++
		}
	}
	return n
}

// parts are a value, and all that is in it.
func parts(v api.JSON) []api.JSON {
	l := []api.JSON{v}
	for _, w := range v.List {
		l = append(l, parts(w)...)
	}
	return l
}

// strs are all strings of a value.
func strs(v api.JSON) []string {
	var l []string
	for _, w := range parts(v) {
		l = append(append(l, w.Text, w.Number.Digits), w.Names...)
	}
	return l
}

// within tells whether a string lies within another one.
func within(a, b string) bool {
	at, from := uintptr(unsafe.Pointer(unsafe.StringData(a))), uintptr(unsafe.Pointer(unsafe.StringData(b)))
	return a != "" && b != "" && at >= from && at < from+uintptr(len(b))
}

// roomy is a value with room behind all its lists, in which something stands.
func roomy() api.JSON {
	room := func(l ...api.JSON) []api.JSON { return append(l, text("room"), text("room"))[:len(l)] }
	names := func(l ...string) []string { return append(l, "room", "room")[:len(l)] }
	digits := func(s string) api.JSON {
		return api.JSON{Kind: 2, Number: api.Decimal{Digits: strings.Clone(s)}}
	}
	inner := api.JSON{Kind: 5, Names: names(strings.Clone("beta"), strings.Clone("alpha")), List: room(digits("1234567"), text(strings.Clone("some text")))}
	return api.JSON{Kind: 5, Names: names(strings.Clone("second"), strings.Clone("first")), List: room(api.JSON{Kind: 4, List: room(inner, digits("7654321"))}, text(strings.Clone("more text")))}
}

// TestMemory: all of P8: answers share nothing with what was handed in, with one another, or within themselves; what was handed in stays as it was.
func TestMemory(t *testing.T) {
	given := []byte(`{"second":[{"beta":1234567,"alpha":"some text"},7654321],"first":"more text"}`)
	for call, do := range map[string]func(v api.JSON) []api.JSON{
		"Parse":   func(api.JSON) []api.JSON { v, _ := jsontext.Parse(given); return []api.JSON{v} },
		"Sorted":  func(v api.JSON) []api.JSON { return []api.JSON{jsontext.Sorted(v)} },
		"Get":     func(v api.JSON) []api.JSON { w, _ := jsontext.Get(v, "second"); return []api.JSON{w} },
		"Pointer": func(v api.JSON) []api.JSON { w, _ := jsontext.Pointer(v, "/second/0"); return []api.JSON{w} },
		"itself":  func(v api.JSON) []api.JSON { w, _ := jsontext.Pointer(v, ""); return []api.JSON{w} },
		"All": func(v api.JSON) []api.JSON {
			var l []api.JSON
			for name, w := range jsontext.All(v) {
				l = append(l, object(name, w))
			}
			return l
		},
		"none": func(v api.JSON) []api.JSON {
			jsontext.Check(v)
			jsontext.Print(v)
			jsontext.Equal(v, v)
			jsontext.Depth(v)
			jsontext.Int(v)
			return nil
		},
	} {
		v, want := roomy(), roomy()
		one, two := do(v), do(v)
		before := make([]string, len(two))
		for i, w := range two {
			before[i] = printed(w)
			for _, a := range strs(w) {
				for _, b := range append(append(strs(v), strs(one[i])...), string(given)) {
					if within(a, b) {
						t.Errorf("P8: %s shares the text %q", call, a)
					}
				}
			}
		}
		for _, w := range one {
			all := parts(w)
			for i := range all {
				scribble(all[i], strconv.Itoa(i))
			}
			for i := range all {
				if spoilt(all[i], strconv.Itoa(i)) > 0 {
					t.Errorf("P8: %s shares memory within its answer", call)
				}
			}
		}
		for i, w := range two {
			wants(t, "P8: "+call+" shares memory with another answer", printed(w), before[i])
		}
		for i, a := range parts(v) {
			b := parts(want)[i]
			if !alike(a, b) || len(a.List) > 0 && (a.List[:len(a.List)+2][len(a.List)].Text != "room" || a.List[:len(a.List)+2][len(a.List)+1].Text != "room") || len(a.Names) > 0 && (a.Names[:len(a.Names)+2][len(a.Names)] != "room" || a.Names[:len(a.Names)+2][len(a.Names)+1] != "room") {
				t.Errorf("P8: %s changed what was handed in, or shares memory with it", call)
			}
		}
	}
	v, _ := jsontext.Parse(given)
	for i := range given {
		given[i] = 'x'
	}
	wants(t, "P8.1: Parse keeps what was handed in", printed(v), `{"second":[{"beta":1234567,"alpha":"some text"},7654321],"first":"more text"}`)
	b, c := jsontext.Print(v), jsontext.Print(v)
	for i := range b {
		b[i] = 'x'
	}
	wants(t, "P8.2: Print shares memory with another answer", string(c), printed(v))
	s := strings.Repeat("plain", 10)
	if q, _ := jsontext.Quote(s); within(q, s) || within(s, q) {
		t.Error("P8.2: Quote shares what was handed in")
	}
	n := decimal.FromInt(12345)
	if w := jsontext.Sorted(api.JSON{Kind: api.JSONNumber, Number: n}); within(w.Number.Digits, n.Digits) {
		t.Error("P8.3: Sorted shares digits")
	}
}
