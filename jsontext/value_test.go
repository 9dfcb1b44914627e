package jsontext_test

import (
	"fmt"
	"slices"
	"sort"
	"strings"
	"testing"

	"lexicon/api"
	"lexicon/jsontext"
)

// none are values that may not be, for one reason or another, at the face and deep inside.
func none() []api.JSON {
	l := append(wrongs(), deeps()...)
	for _, v := range wrongs() {
		l = append(l, list(v), object("a", null(), "b", list(null(), v)), nested(v, 63, "both"))
	}
	return append(l, list(slices.Repeat([]api.JSON{text("\x01\n\"")}, 100_000)...), text(strings.Repeat("a", 1<<20-1)), object(strings.Repeat("a", 1<<20-5), number("1")))
}

// inOrder is a value whose objects' members go by the bytes of their names.
func inOrder(v api.JSON) api.JSON {
	w := v
	w.Names, w.List = slices.Clone(v.Names), nil
	sort.Strings(w.Names)
	for i, x := range v.List {
		if v.Kind == api.JSONObject {
			x = v.List[slices.Index(v.Names, w.Names[i])]
		}
		w.List = append(w.List, inOrder(x))
	}
	return w
}

// sorts complains if Sorted answers anything but what is wanted.
func sorts(t *testing.T, v, want api.JSON) {
	t.Helper()
	if s := jsontext.Sorted(v); !alike(s, want) {
		t.Errorf("P8.3: Sorted of %s: %s, not %s", brief(v), brief(s), brief(want))
	}
}

// TestSorted: P8.3: members by their names' bytes, rising, in all objects; lists as they are.
func TestSorted(t *testing.T) {
	one, two, three := number("1"), number("2"), number("3")
	sorts(t, object("b", number("1.50"), "a", text("x")), object("a", text("x"), "b", number("1.5")))
	sorts(t, object("b", one, "a", two, "c", three), object("a", two, "b", one, "c", three))
	sorts(t, object("c", one, "b", two, "a", three), object("a", three, "b", two, "c", one))
	sorts(t, object("a", one, "", two), object("", two, "a", one))
	sorts(t, object("aa", one, "a", two, "a\x00", three), object("a", two, "a\x00", three, "aa", one))
	sorts(t, object("a", one, "B", two, "_", three), object("B", two, "_", three, "a", one))
	sorts(t, object("10", one, "9", two, "1", three), object("1", three, "10", one, "9", two))
	sorts(t, object("\uffff", one, "\U00010000", two, "é", three, "z", null()), object("z", null(), "é", three, "\uffff", one, "\U00010000", two))
	sorts(t, object("\"", one, "!", two, "\n", three), object("\n", three, "!", two, "\"", one))
	sorts(t, list(three, one, two), list(three, one, two))
	sorts(t, list(object("b", one, "a", two), object("a", one)), list(object("a", two, "b", one), object("a", one)))
	sorts(t, object("b", object("b", one, "a", two), "a", list(object("d", object("f", one, "e", two), "c", three))), object("a", list(object("c", three, "d", object("e", two, "f", one))), "b", object("a", two, "b", one)))
	for _, v := range rights() {
		sorts(t, v, inOrder(v))
		if deep(v) <= 62 {
			sorts(t, object("b", null(), "a", list(v)), object("a", list(inOrder(v)), "b", null()))
		}
	}
	for _, v := range sizes(1 << 20) {
		sorts(t, v, inOrder(v))
	}
	for _, v := range none() {
		sorts(t, v, api.JSON{})
	}
	many := api.JSON{Kind: api.JSONObject}
	for i := range 3000 {
		many.Names, many.List = append(many.Names, fmt.Sprint(i*7919%3000)), append(many.List, number(fmt.Sprint(i)))
	}
	sorts(t, many, inOrder(many))
	next := numbers(4)
	for range 10_000 {
		v := value(next, 4)
		sorts(t, v, inOrder(v))
	}
}

// shuffled is a value whose objects' members stand in no plain order.
func shuffled(next func(int) int, v api.JSON) api.JSON {
	w := v
	w.Names, w.List = slices.Clone(v.Names), nil
	for _, x := range v.List {
		w.List = append(w.List, shuffled(next, x))
	}
	for i := range w.Names {
		j := next(i + 1)
		w.Names[i], w.Names[j] = w.Names[j], w.Names[i]
		w.List[i], w.List[j] = w.List[j], w.List[i]
	}
	return w
}

// equals complains if Equal answers anything but what is wanted, the one way or the other.
func equals(t *testing.T, a, b api.JSON, want bool) {
	t.Helper()
	if jsontext.Equal(a, b) != want || jsontext.Equal(b, a) != want {
		t.Errorf("P8.3: Equal of %s and %s is not %t", brief(a), brief(b), want)
	}
}

// TestEqual: P8.3: objects in another order, inside lists and objects, too; lists in theirs; what may not be is not even itself.
func TestEqual(t *testing.T) {
	one, two := number("1"), number("2")
	equals(t, object("a", one, "b", number("2.0")), object("b", number("2"), "a", number("1e0")), true)
	equals(t, list(object("a", one, "b", two)), list(object("b", two, "a", one)), true)
	equals(t, object("x", object("a", one, "b", two), "y", null()), object("y", null(), "x", object("b", two, "a", one)), true)
	equals(t, list(one, list(object("x", list(object("a", one, "b", two, "c", null()))))), list(one, list(object("x", list(object("c", null(), "a", one, "b", two))))), true)
	equals(t, object("a", one, "b", two), object("a", two, "b", one), false)
	equals(t, object("a", one, "b", two), object("b", one, "a", two), false)
	equals(t, object("a", one), object("b", one), false)
	equals(t, object("a", one), object("A", one), false)
	equals(t, object("é", one), object("e\u0301", one), false)
	equals(t, object("a", one), object("a", one, "b", two), false)
	equals(t, object("a", one, "b", two), object("a", one, "c", two), false)
	equals(t, object("a", one, "b", null()), object("a", one), false)
	equals(t, object("a", null()), object("b", null()), false)
	equals(t, object("a", object("b", one)), object("a", object("b", two)), false)
	equals(t, object("a", object("b", one)), object("a", object("c", one)), false)
	equals(t, object("a", one, "b", two, "c", yes()), object("c", yes(), "b", two, "a", no()), false)
	equals(t, list(one, two), list(two, one), false)
	equals(t, list(one), list(one, one), false)
	equals(t, list(), list(null()), false)
	equals(t, list(list()), list(), false)
	equals(t, list(list(), null()), list(null(), list()), false)
	equals(t, list(object("a", one)), list(object("a", two)), false)
	equals(t, list(), object(), false)
	equals(t, list(one), object("0", one), false)
	equals(t, null(), list(), false)
	equals(t, null(), no(), false)
	equals(t, no(), yes(), false)
	equals(t, no(), number("0"), false)
	equals(t, number("0"), null(), false)
	equals(t, number("0"), number("-0"), true)
	equals(t, one, number("-1"), false)
	equals(t, one, number("10"), false)
	equals(t, one, number("11"), false)
	equals(t, one, number("1.00e0"), true)
	equals(t, number("9007199254740993"), number("9007199254740992"), false)
	equals(t, text("1"), one, false)
	equals(t, text(""), null(), false)
	equals(t, text("a"), text("b"), false)
	equals(t, text("a"), text("A"), false)
	equals(t, text("a"), text("a "), false)
	equals(t, text("null"), null(), false)
	equals(t, api.JSON{Kind: 4, Names: []string{}}, api.JSON{Kind: 4, List: []api.JSON{}}, true)
	all := append(rights(), sizes(1<<20)...)
	for i, a := range all {
		for j, b := range all {
			if i == j || i < len(rights()) && j < len(rights()) {
				equals(t, a, b, alike(inOrder(a), inOrder(b)))
			}
		}
	}
	for _, v := range none() {
		equals(t, v, v, false)
		equals(t, v, null(), false)
		equals(t, v, list(), false)
		equals(t, list(null(), v), list(null(), v), false)
	}
}

// TestEqualSome: P8.3: values of no plain order, shuffled, and with one thing changed.
func TestEqualSome(t *testing.T) {
	next, met := numbers(5), map[bool]int{}
	for range 20_000 {
		a := value(next, 4)
		b := shuffled(next, a)
		equals(t, a, b, true)
		at := &b
		for len(at.List) > 0 && next(4) > 0 {
			at = &at.List[next(len(at.List))]
		}
		*at = value(next, 2)
		want := alike(inOrder(a), inOrder(b))
		equals(t, a, b, want)
		met[want]++
	}
	if met[true] < 500 || met[false] < 5000 {
		t.Error("P8.3: values of one sort only", met)
	}
}

// TestDepth: P8.3: of what is empty, of what is not, of what may not be.
func TestDepth(t *testing.T) {
	for _, x := range []struct {
		v    api.JSON
		want int
	}{
		{list(list(), number("1")), 2}, {null(), 0}, {yes(), 0}, {no(), 0}, {number("1"), 0}, {text("[[]]"), 0}, {list(), 1}, {object(), 1}, {list(null()), 1}, {object("a", null()), 1}, {list(list()), 2}, {list(object()), 2}, {object("a", list()), 2}, {object("a", object("b", null())), 2},
		{list(null(), list(list()), null()), 3}, {list(list(list()), list()), 3}, {list(list(), list(list())), 3}, {object("a", null(), "b", list(object("c", null())), "d", list()), 3},
	} {
		wants(t, "P8.3: Depth of "+brief(x.v), jsontext.Depth(x.v), x.want)
	}
	for _, how := range []string{"lists", "objects", "both"} {
		for n := range 70 {
			want := n
			if n > 64 {
				want = 0
			}
			wants(t, "P8.3: Depth of many "+how, jsontext.Depth(nested(null(), n, how)), want)
			wants(t, "P8.3: Depth of what is empty, in many "+how, jsontext.Depth(nested(object(), n, how)), (n+1)*min(1, max(0, 64-n)))
		}
	}
	for _, v := range none() {
		wants(t, "P8.3: Depth of what may not be", jsontext.Depth(v), 0)
	}
	for _, v := range append(rights(), sizes(1<<20)...) {
		wants(t, "P8.3: Depth", jsontext.Depth(v), deep(v))
	}
}
