package jsontext_test

import (
	"math"
	"slices"
	"strconv"
	"strings"
	"testing"

	"lexicon/api"
	"lexicon/decimal"
	"lexicon/jsontext"
)

// TestGet: P8.4: an object's member of that name, and nothing of all else.
func TestGet(t *testing.T) {
	v := object("a", number("1"), "", list(), "é", object("a", text("x")), "a/b", yes(), "~", no(), "0", null())
	gets := func(v api.JSON, name string, want api.JSON, there bool) {
		t.Helper()
		if m, ok := jsontext.Get(v, name); !alike(m, want) || ok != there {
			t.Errorf("P8.4: Get of %s by %.50q: %s, %t", brief(v), name, brief(m), ok)
		}
	}
	for i, name := range v.Names {
		gets(v, name, v.List[i], true)
	}
	for _, name := range []string{"b", "A", "a ", " a", "aa", "e\u0301", "\xc3", "\xe9", "a\x00", "1", "a~1b", "/a", "~0", "\"a\"", `\u0061`, strings.Repeat("a", 1<<20)} {
		gets(v, name, null(), false)
	}
	for _, v := range []api.JSON{null(), yes(), number("0"), text("a"), list(), list(null()), list(object("a", yes())), object()} {
		for _, name := range []string{"", "0", "a", "-", "\xff"} {
			gets(v, name, null(), false)
		}
	}
	gets(object("b", object("a", yes())), "a", null(), false)
	gets(object("a", null()), "a", null(), true)
	for _, v := range none() {
		gets(v, "a", null(), false)
		gets(v, "", null(), false)
		if len(v.Names) > 0 {
			gets(v, v.Names[0], null(), false)
		}
		gets(object("x", yes(), "y", v), "x", null(), false)
	}
	for _, v := range sizes(1 << 20) {
		for i, name := range v.Names {
			gets(v, name, v.List[i], true)
		}
	}
}

// led is where the chapter's words lead by a path.
func led(v api.JSON, path string) (api.JSON, api.Errno) {
	if checked(v) != api.OK || path != "" && path[0] != '/' {
		return null(), api.ErrArg
	}
	names := strings.Split(path, "/")[1:]
	if path == "" {
		names = nil
	}
	for i, name := range names {
		rest := strings.ReplaceAll(strings.ReplaceAll(name, "~0", ""), "~1", "")
		if strings.Contains(rest, "~") || strings.Contains(name, "~~") {
			return null(), api.ErrArg
		}
		names[i] = strings.NewReplacer("~0", "~", "~1", "/").Replace(name)
	}
	for _, name := range names {
		there := false
		for i, w := range v.List {
			if v.Kind == api.JSONObject && v.Names[i] == name || v.Kind == api.JSONList && strconv.Itoa(i) == name {
				v, there = w, true
				break
			}
		}
		if !there {
			return null(), api.ErrNone
		}
	}
	return v, api.OK
}

// leads complains if Pointer answers anything but what is wanted.
func leads(t *testing.T, v api.JSON, path string, want api.JSON, code api.Errno) {
	t.Helper()
	if w, e := jsontext.Pointer(v, path); !alike(w, want) || e != code {
		t.Errorf("P8.4: Pointer of %s by %.100q: %s, %d, not %s, %d", brief(v), path, brief(w), e, brief(want), code)
	}
}

// TestPointer: P8.4: paths of nothing, of empty names, with ~ and /, places in lists, and what is no path.
func TestPointer(t *testing.T) {
	one, two := number("1"), number("2")
	v := object("a/b", list(number("10"), object("~", one)))
	leads(t, v, "/a~1b/1/~0", one, api.OK)
	leads(t, v, "/a~1b/0", number("10"), api.OK)
	leads(t, v, "", v, api.OK)
	for path, e := range map[string]api.Errno{"/a~1b/2": api.ErrNone, "/a~1b/01": api.ErrNone, "a": api.ErrArg, "/~2": api.ErrArg, "/": api.ErrNone, "//": api.ErrNone, "/a/b": api.ErrNone, "/a~1b/": api.ErrNone, "/a~1b/1/~0/": api.ErrNone, "/a~1b/1/~0/0": api.ErrNone, "/a~1b/1/": api.ErrNone, "/a~1b/1/~1": api.ErrNone, "/a~1b/1/~01": api.ErrNone} {
		leads(t, v, path, null(), e)
	}
	names := object("", one, "/", two, "~", number("3"), "~1", number("4"), "~0", number("5"), "//", number("6"), "~~", number("7"), "/~", number("8"), "~/", number("9"), "a", object("", object("", yes())), "0", number("11"), "~01", number("12"), "é", number("13"), "01", number("14"), "-", number("15"), " ", number("16"), "~10", number("17"))
	for path, want := range map[string]api.JSON{"/": one, "/~1": two, "/~0": number("3"), "/~01": number("4"), "/~00": number("5"), "/~1~1": number("6"), "/~0~0": number("7"), "/~1~0": number("8"), "/~0~1": number("9"), "/a": object("", object("", yes())), "/a/": object("", yes()), "/a//": yes(), "/0": number("11"), "/~001": number("12"), "/é": number("13"), "/01": number("14"), "/-": number("15"), "/ ": number("16"), "/~010": number("17")} {
		leads(t, names, path, want, api.OK)
	}
	for _, path := range []string{"/a///", "//", "/~1/", "/~10", "/b", "/A", "/a/a", "/é/", "/\xff", "/\xc3\xa9\xc3", "/e\u0301", "/%20", "/00", "/\"a\"", "/ a", "/a ", "/~1~1~1", "/\x00"} {
		leads(t, names, path, null(), api.ErrNone)
	}
	for _, path := range []string{"a", " ", "0", "~", "~0", "~1", "a/", " /a", "#/a", "#", "\xff", "/~", "/~~", "/~2", "/~/", "/~ ", "/~a", "/a~", "/~0~", "/~1~", "/~~0", "/~~1", "/~0~2", "/a/~", "/b/~2", "/b/b/b/~", "/~/a", "//~", "/~\x00", "/~é", "/~\xff", "/~-", "/~3", "/a/~/a", "/0~9"} {
		for _, w := range []api.JSON{names, null(), list(one), object()} {
			leads(t, w, path, null(), api.ErrArg)
		}
	}
	for _, w := range []api.JSON{null(), yes(), number("0"), text("0"), text("a"), list(), object()} {
		leads(t, w, "", w, api.OK)
		for _, path := range []string{"/", "/0", "/a", "//", "/-", "/0/0"} {
			leads(t, w, path, null(), api.ErrNone)
		}
	}
}

// TestPointerPlaces: P8.4: places with noughts ahead, of 9 and of 10 digits, past the end, and what is none.
func TestPointerPlaces(t *testing.T) {
	var l []api.JSON
	for i := range 1200 {
		l = append(l, number(strconv.Itoa(i)))
	}
	v := list(l...)
	for i := range 1200 {
		leads(t, v, "/"+strconv.Itoa(i), l[i], api.OK)
	}
	for _, path := range []string{"/1200", "/1201", "/9999", "/99999999", "/999999999", "/000000000", "/000000001", "/0000000001", "/0000000000", "/9999999999", "/1000000000", "/4294967296", "/4294967297", "/8589934592", "/9223372036854775807", "/9223372036854775808", "/18446744073709551616", "/18446744073709551617", "/100000000000000000000000000", "/" + strings.Repeat("9", 1000), "/00", "/01", "/001", "/010", "/0 ", "/ 0", "/+0", "/-0", "/+1", "/-1", "/-", "/", "/1.0", "/1e1", "/0x1", "/1_0", "/a", "/1a", "/a1", "/\x00", "/1\x00", "/١", "/１", "/\xff", "/~0", "/~1", "/1~0", "/,1", "/:", "//0", "/0/", "/0/0", "/\n1", "/1\n"} {
		leads(t, v, path, null(), api.ErrNone)
		leads(t, list(v), "/0"+path, null(), api.ErrNone)
	}
	leads(t, list(list(list(), list(yes()))), "/0/1/0", yes(), api.OK)
	leads(t, list(null()), "/0", null(), api.OK)
	leads(t, list(null()), "/1", null(), api.ErrNone)
	leads(t, object("0", list(object("0", no()))), "/0/0/0", no(), api.OK)
	great := list(append(slices.Repeat([]api.JSON{null()}, 200_000), yes())...)
	leads(t, great, "/199999", null(), api.OK)
	leads(t, great, "/200000", yes(), api.OK)
	leads(t, great, "/200001", null(), api.ErrNone)
}

// TestPointerWrong: P8.4: of a value that may not be, by whatever path, and paths that are long.
func TestPointerWrong(t *testing.T) {
	for _, v := range none() {
		for _, path := range []string{"", "/", "/a", "/0", "a", "/~"} {
			leads(t, v, path, null(), api.ErrArg)
		}
		leads(t, list(yes(), v), "/0", null(), api.ErrArg)
	}
	most := strings.Repeat("~", 1<<20-6)
	v := object(most, number("1"))
	leads(t, v, "/"+strings.Repeat("~0", 1<<20-6), number("1"), api.OK)
	leads(t, v, "/"+strings.Repeat("~0", 1<<20-7), null(), api.ErrNone)
	leads(t, v, "/"+strings.Repeat("~0", 1<<20-6)+"~", null(), api.ErrArg)
	leads(t, v, strings.Repeat("/", 1<<22), null(), api.ErrNone)
	leads(t, v, strings.Repeat("/", 1<<22)+"~", null(), api.ErrArg)
	leads(t, nested(text("x"), 64, "lists"), strings.Repeat("/0", 64), text("x"), api.OK)
	leads(t, nested(text("x"), 64, "lists"), strings.Repeat("/0", 65), null(), api.ErrNone)
	leads(t, nested(text("x"), 64, "objects"), strings.Repeat("/a", 64), text("x"), api.OK)
	leads(t, nested(text("x"), 64, "both"), strings.Repeat("/a/0", 32), text("x"), api.OK)
}

// TestPointerSome: P8.4: values and paths of no plain order, and all short ones, against the chapter's words.
func TestPointerSome(t *testing.T) {
	next, met := numbers(6), map[api.Errno]int{}
	for range 30_000 {
		v := value(next, 4)
		path := ""
		for at := v; len(at.List) > 0 && next(5) > 0; {
			i := next(len(at.List))
			name := strconv.Itoa(i)
			if at.Kind == api.JSONObject {
				name = strings.NewReplacer("~", "~0", "/", "~1").Replace(at.Names[i])
			}
			path, at = path+"/"+name, at.List[i]
		}
		if at := next(len(path) + 1); next(3) == 0 {
			path = path[:at] + []string{"/", "~", "0", "1", "a", "~0", "~1", ""}[next(8)] + path[min(len(path), at+next(2)):]
		}
		want, e := led(v, path)
		leads(t, v, path, want, e)
		met[e]++
	}
	for _, e := range []api.Errno{api.OK, api.ErrArg, api.ErrNone} {
		if met[e] < 500 {
			t.Errorf("P8.4: %d met %d times only", e, met[e])
		}
	}
	v := object("", list(yes(), object("1", no(), "~", text("a"), "/", text("b"))), "0", list(list(number("1"), list())), "~0", object("", null()), "/1", number("2"), "01", number("3"), "~1", number("4"))
	for _, path := range texts("/~01", 7) {
		want, e := led(v, path)
		leads(t, v, path, want, e)
	}
}

// pair is what All tells.
type pair struct {
	name  string
	value api.JSON
}

// told is all that an iterator tells, up to so many.
func told(v api.JSON, most int) []pair {
	var l []pair
	for name, w := range jsontext.All(v) {
		if l = append(l, pair{name, w}); len(l) == most {
			break
		}
	}
	return l
}

// TestAll: P8.4: members by name, values by place, in order; nothing of other kinds.
func TestAll(t *testing.T) {
	goes := func(v api.JSON, names ...string) {
		t.Helper()
		l := told(v, math.MaxInt)
		if len(l) != len(names) {
			t.Errorf("P8.4: All of %s: %d, not %d", brief(v), len(l), len(names))
			return
		}
		for i, name := range names {
			if l[i].name != name || !alike(l[i].value, v.List[i]) {
				t.Errorf("P8.4: All of %s, at %d: %q, %s", brief(v), i, l[i].name, brief(l[i].value))
			}
		}
	}
	goes(list(number("10"), object("~", number("1"))), "0", "1")
	goes(object("b", number("1"), "a", list(), "", object("x", null()), "10", null(), "é~/", yes()), "b", "a", "", "10", "é~/")
	goes(list(list(), null(), list(list(), yes())), "0", "1", "2")
	var names []string
	for i := range 1200 {
		names = append(names, strconv.Itoa(i))
	}
	goes(api.JSON{Kind: api.JSONList, List: make([]api.JSON, 1200)}, names...)
	for _, v := range []api.JSON{null(), yes(), no(), number("5"), text("abc"), list(), object()} {
		goes(v)
	}
	for _, v := range none() {
		if l := told(v, math.MaxInt); len(l) > 0 {
			t.Errorf("P8.4: All of %s, which may not be: %d", brief(v), len(l))
		}
	}
}

// TestAllAgain: P8.4: left early, gone over again, within itself, behind a change of the value, and of what was told.
func TestAllAgain(t *testing.T) {
	made := func() api.JSON {
		return object("a", list(number("1"), text("x")), "b", object("c", list(yes())), "d", text("y"))
	}
	v := made()
	all := jsontext.All(v)
	v.Names[0], v.Names[2] = "z", "\xff"
	v.List[0].List[1], v.List[1].Names[0], v.List[1].List[0].List[0] = list(), "w", null()
	v.List[2] = api.JSON{Kind: 77}
	want := made()
	for round := range 4 {
		at := 0
		for name, w := range all {
			if name != want.Names[at] || !alike(w, want.List[at]) {
				t.Errorf("P8.4: All, gone over again, round %d: %q, %s", round, name, brief(w))
			}
			w.Text = "spoilt"
			scribble(w, "spoilt")
			if at++; round == 1 && at == 1 || round == 2 && at == 2 {
				break
			}
		}
		wants(t, "P8.4: All, gone over again", at, []int{3, 1, 2, 3}[round])
	}
	n := 0
	for one := range all {
		for two := range all {
			if one == two {
				n++
			}
		}
	}
	wants(t, "P8.4: All within itself", n, 3)
	for range 2 {
		for range jsontext.All(list(null(), null())) {
			n++
			break
		}
	}
	wants(t, "P8.4: All, left at the first one", n, 5)
}

// TestInt: P8.4: at both ends of int64 and one past them, of numbers that are not whole, and of what is no number.
func TestInt(t *testing.T) {
	ints := func(v api.JSON, want int64, ok bool) {
		t.Helper()
		if n, is := jsontext.Int(v); n != want || is != ok {
			t.Errorf("P8.4: Int of %s: %d, %t", brief(v), n, is)
		}
	}
	for s, want := range map[string]int64{"0": 0, "-0.0": 0, "1": 1, "-1": -1, "10": 10, "1e3": 1000, "1.50e2": 150, "-12.00": -12, "9223372036854775807": math.MaxInt64, "-9223372036854775808": math.MinInt64, "9223372036854775806": math.MaxInt64 - 1, "922337203685477580.7e1": math.MaxInt64, "1e18": 1e18, "-9007199254740993": -9007199254740993} {
		ints(number(s), want, true)
	}
	for _, s := range []string{"9223372036854775808", "-9223372036854775809", "1e19", "-1e19", "18446744073709551616", "18446744073709551617", "1e1000", "-1e1000", "0.5", "-0.5", "1.5", "1e-1", "1e-1000", "9223372036854775806.5", "0.9999999999999999999999"} {
		ints(number(s), 0, false)
	}
	for _, v := range []api.JSON{null(), yes(), no(), text("1"), text(""), list(), list(number("1")), object(), object("1", number("1"))} {
		ints(v, 0, false)
	}
	for _, v := range none() {
		ints(v, 0, false)
	}
	next := numbers(7)
	for range 2000 {
		n := int64(next(1<<31))<<33 ^ int64(next(1<<31))<<10 ^ int64(next(1<<10))
		ints(api.JSON{Kind: api.JSONNumber, Number: decimal.FromInt(n)}, n, true)
	}
}
