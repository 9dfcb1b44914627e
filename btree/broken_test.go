package btree_test

import (
	"bytes"
	"slices"
	"strconv"
	"strings"
	"testing"

	"lexicon/api"
	"lexicon/btree"
	"lexicon/pager"
)

// calls makes each call of a tree whose pages may be none: each ends, tells nothing beside an error, and changes nothing that it refuses.
func calls(t *testing.T, what string, p *pager.Pager, x *btree.Tree, keys []string) {
	t.Helper()
	wants(t, "Commit", p.Commit(), api.OK)
	was := contentOf(p)
	refused := func(call string, e api.Errno, zero bool) {
		t.Helper()
		if e != api.OK && (e != api.ErrBroken || !zero) {
			t.Errorf("P5.1: %s: %s: %v, %v", what, call, zero, e)
		}
		if _, _, open, _ := p.State(); e != api.OK && (open || !contentOf(p).same(was)) {
			t.Errorf("P5.2: %s: %s changes what it refuses", what, call)
		}
		wants(t, "Rollback", p.Rollback(), api.OK)
	}
	for _, key := range keys {
		k := []byte(key)
		v, ok, e := x.Get(k)
		refused("Get "+named(key), e, v == nil && !ok)
		next, ok, e := x.Next(k)
		refused("Next "+named(key), e, next == nil && !ok)
		refused("Put "+named(key), x.Put(k, []byte(text(150, 1))), true)
		refused("Put "+named(key), x.Put(k, []byte(text(3000, 1))), true)
		there, e := x.Delete(k)
		refused("Delete "+named(key), e, !there)
		last := ""
		for k := range x.Scan(k, nil) {
			if string(k) < key || string(k) <= last {
				t.Errorf("P5.3: %s: Scan %s tells %s behind %s", what, named(key), named(string(k)), named(last))
			}
			last = string(k)
		}
	}
	i, e := x.Check()
	refused("Check", e, i == api.TreeInfo{})
	c := x.Clear()
	refused("Clear", c, true)
	n := 0
	for range x.Scan(nil, nil) {
		n++
	}
	if e != c || e == api.OK && i.Keys != n {
		t.Errorf("P5.3: %s: Check %v %v, Clear %v, and Scan tells %d", what, i, e, c, n)
	}
}

// none holds against a tree that its pages are none.
func none(t *testing.T, what string, p *pager.Pager, keys []string) {
	t.Helper()
	x := opened(t, p, 0)
	if i, e := x.Check(); i != (api.TreeInfo{}) || e != api.ErrBroken {
		t.Errorf("P5.3: %s: Check: %v %v", what, i, e)
	}
	wants(t, "P5.2: "+what+": Clear", x.Clear(), api.ErrBroken)
	calls(t, what, p, x, keys)
}

// TestNoTree: the root leads to what is no tree's page: all calls tell so, and nothing else.
func TestNoTree(t *testing.T) {
	roots := map[string]func(p *pager.Pager) int{
		"a page that is not there": func(*pager.Pager) int { return 1 << 40 },
		"a page that is not taken": func(*pager.Pager) int { return 7 },
		"a page that is given back": func(p *pager.Pager) int {
			page := laid(t, p, nodePage(0, leafItem("a", "1")))
			wants(t, "Free", p.Free(page), api.OK)
			return page
		},
		"a value": func(p *pager.Pager) int { return laid(t, p, piecePage(3, 0, "abc")) },
	}
	for what, b := range map[string][]byte{
		"noughts":                 nil,
		"255s":                    bytes.Repeat([]byte{255}, api.Page),
		"1s":                      bytes.Repeat([]byte{1}, api.Page),
		"text":                    bytes.Repeat([]byte("lexicon "), api.Page/8),
		"no keys":                 nodePage(0),
		"no kids":                 nodePage(1),
		"a key of no bytes":       nodePage(0, leafItem("", "1")),
		"a key of 301 bytes":      nodePage(0, leafItem(strings.Repeat("k", 301), "1")),
		"a key with no end":       nodePage(0, "\xff\xffabc"),
		"two keys that are one":   nodePage(0, leafItem("a", "1"), leafItem("a", "2")),
		"keys that fall":          nodePage(0, leafItem("b", "1"), leafItem("a", "2")),
		"a value with no end":     nodePage(0, leafItem(strings.Repeat("a", 290), text(180, 1)), leafItem(strings.Repeat("b", 290), text(180, 1)), number(1, 2)+"c"+number(300, 4)),
		"a value too long":        nodePage(0, longItem("a", 65537, 1)),
		"a value that is huge":    nodePage(0, longItem("a", 1<<32-1, 1)),
		"something behind":        append(nodePage(0, leafItem("a", "1"))[:api.Page-1], 1),
		"one kid":                 nodePage(1, kidItem("", 1)),
		"a first kid with a key":  nodePage(1, kidItem("a", 1), kidItem("b", 2)),
		"a kid of no key":         nodePage(1, kidItem("", 1), kidItem("", 2)),
		"a kid of a key too long": nodePage(1, kidItem("", 1), kidItem(strings.Repeat("k", 301), 2)),
		"kids that fall":          nodePage(1, kidItem("", 1), kidItem("b", 1), kidItem("a", 1)),
		"many levels":             nodePage(255, kidItem("", 1), kidItem("b", 1)),
	} {
		roots[what] = func(p *pager.Pager) int { return laid(t, p, padded(string(b))) }
	}
	roots["fewer keys"] = func(p *pager.Pager) int {
		b := nodePage(0, leafItem("a", "1"))
		b[2] = 2
		return laid(t, p, b)
	}
	for what, root := range roots {
		p, _ := paged(t, 20)
		wants(t, "SetRoot", p.SetRoot(0, root(p)), api.OK)
		wants(t, "Commit", p.Commit(), api.OK)
		x := opened(t, p, 0)
		for k, v := range x.Scan(nil, nil) {
			t.Errorf("P5.3: %s: Scan tells %q %q", what, k, v)
		}
		for _, key := range []string{"a", "b", "c"} {
			_, _, g := x.Get([]byte(key))
			_, _, n := x.Next([]byte(key))
			_, d := x.Delete([]byte(key))
			for i, e := range []api.Errno{g, n, d, x.Put([]byte(key), nil)} {
				if value := strings.HasPrefix(what, "a value too") || strings.HasPrefix(what, "a value that"); !value || i != 1 {
					wants(t, "P5.1: "+what+": "+strconv.Itoa(i), e, api.ErrBroken)
				}
			}
		}
		none(t, what, p, []string{"a", "b", "c", "z"})
	}
}

// rooted is a pager whose page 1 is a tree's root.
func rooted(t *testing.T, pages ...[]byte) *pager.Pager {
	t.Helper()
	p, _ := paged(t, 40)
	for i, b := range pages {
		if page := laid(t, p, b); page != i+1 {
			t.Fatalf("page %d is %d", i+1, page)
		}
	}
	wants(t, "SetRoot", p.SetRoot(0, 1), api.OK)
	return p
}

// TestNotSo: P5.3: pages that are a tree's each, and do not go together; some lead round.
func TestNotSo(t *testing.T) {
	leaf := func(key string) []byte { return nodePage(0, leafItem(key, "v")) }
	long := strings.Repeat("x", piece)
	for what, pages := range map[string][][]byte{
		"a kid that leads to itself":         {nodePage(1, kidItem("", 1), kidItem("m", 2)), leaf("n")},
		"a kid that is not there":            {nodePage(1, kidItem("", 2), kidItem("m", 9)), leaf("a")},
		"a kid that is the pager's own page": {nodePage(1, kidItem("", 2), kidItem("m", 0)), leaf("a")},
		"a kid twice":                        {nodePage(1, kidItem("", 2), kidItem("m", 2)), leaf("a")},
		"kids that lead to each other":       {nodePage(2, kidItem("", 2), kidItem("m", 3)), nodePage(1, kidItem("", 3), kidItem("b", 3)), nodePage(1, kidItem("", 2), kidItem("z", 2))},
		"kids that lead back":                {nodePage(2, kidItem("", 2), kidItem("m", 3)), nodePage(1, kidItem("", 4), kidItem("b", 1)), nodePage(1, kidItem("", 5), kidItem("z", 1)), leaf("a"), leaf("n")},
		"a way that is shorter":              {nodePage(2, kidItem("", 2), kidItem("m", 3)), nodePage(1, kidItem("", 4), kidItem("b", 5)), leaf("n"), leaf("a"), leaf("c")},
		"a way that is longer":               {nodePage(1, kidItem("", 2), kidItem("m", 3)), leaf("a"), nodePage(1, kidItem("", 4), kidItem("o", 5)), leaf("n"), leaf("p")},
		"a key below its bound":              {nodePage(1, kidItem("", 2), kidItem("m", 3)), leaf("a"), leaf("l")},
		"a key at its upper bound":           {nodePage(1, kidItem("", 2), kidItem("m", 3)), leaf("m"), leaf("n")},
		"a key above all bounds":             {nodePage(1, kidItem("", 2), kidItem("m", 3), kidItem("o", 4)), leaf("a"), leaf("o"), leaf("p")},
		"a bound that is not between":        {nodePage(2, kidItem("", 2), kidItem("m", 3)), nodePage(1, kidItem("", 4), kidItem("x", 5)), nodePage(1, kidItem("", 6), kidItem("o", 7)), leaf("a"), leaf("b"), leaf("m"), leaf("o")},
		"a kid that is a value":              {nodePage(1, kidItem("", 2), kidItem("m", 3)), leaf("a"), piecePage(3, 0, "abc")},
		"a value that is keys":               {nodePage(0, longItem("a", 600, 2), leafItem("b", "1")), leaf("a")},
		"a value that is the root":           {nodePage(0, longItem("a", 600, 1), leafItem("b", "1"))},
		"a value that is not there":          {nodePage(0, longItem("a", 600, 9), leafItem("b", "1"))},
		"a value of another length":          {nodePage(0, longItem("a", 600, 2), leafItem("b", "1")), piecePage(601, 0, long[:601])},
		"a value that goes on":               {nodePage(0, longItem("a", 600, 2), leafItem("b", "1")), piecePage(600, 2, long[:600])},
		"a value that ends":                  {nodePage(0, longItem("a", 1600, 2), leafItem("b", "1")), piecePage(1600, 0, long)},
		"a value with something behind":      {nodePage(0, longItem("a", 600, 2), leafItem("b", "1")), piecePage(600, 0, long[:601])},
		"a value that leads to itself":       {nodePage(0, longItem("a", 9000, 2), leafItem("b", "1")), piecePage(9000, 2, long)},
		"a value that leads round":           {nodePage(0, longItem("a", 9000, 2), leafItem("b", "1")), piecePage(9000, 3, long), piecePage(9000-piece, 2, long)},
		"a value that leads to keys":         {nodePage(0, longItem("a", 1600, 2), leafItem("b", "1")), piecePage(1600, 1, long)},
		"a value that is huge":               {nodePage(0, longItem("a", 600, 2), leafItem("b", "1")), piecePage(1<<32-1, 0, long)},
		"two values that are one":            {nodePage(0, longItem("a", 600, 2), longItem("b", 600, 2)), piecePage(600, 0, long[:600])},
		"values that go on as one":           {nodePage(0, longItem("a", 1600, 2), longItem("b", 1600, 3)), piecePage(1600, 4, long), piecePage(1600, 4, long), piecePage(1600-piece, 0, long[:1600-piece])},
		"a short value apart":                {nodePage(0, longItem("a", 503, 2), leafItem("b", "1")), piecePage(503, 0, long[:503])},
	} {
		none(t, what, rooted(t, pages...), []string{"a", "b", "l", "m", "n", "o", "p", "z"})
	}
}

// TestSo: pages like those of TestNotSo that go together are a tree, so it is what is told there that is wrong.
func TestSo(t *testing.T) {
	leaf := func(key string) []byte { return nodePage(0, leafItem(key, "v")) }
	long := strings.Repeat("x", piece)
	p := rooted(t, nodePage(2, kidItem("", 2), kidItem("m", 3)), nodePage(1, kidItem("", 4), kidItem("b", 5)), nodePage(1, kidItem("", 6), kidItem("o", 7)), leaf("a"), leaf("b"), leaf("m"),
		nodePage(0, longItem("o", 1600, 8), longItem("p", 504, 10)), piecePage(1600, 9, long), piecePage(1600-piece, 0, long[:1600-piece]), piecePage(504, 0, long[:504]))
	m := pairs{"a": "v", "b": "v", "m": "v", "o": strings.Repeat("x", 1600), "p": long[:504]}
	x := opened(t, p, 0)
	alone(t, p, m.is(t, x))
	if i, e := x.Check(); i != (api.TreeInfo{Keys: 5, Depth: 3, Pages: 10}) || e != api.OK {
		t.Errorf("P5.3: Check: %v %v", i, e)
	}
	calls(t, "pages that go together", p, x, []string{"a", "b", "n", "o", "p"})
}

// TestScanEnds: P5.3: Scan goes up to the first page that is none, and Get and Next tell what lies apart from it.
func TestScanEnds(t *testing.T) {
	leaf := func(keys ...string) []byte {
		var items []string
		for _, key := range keys {
			items = append(items, leafItem(key, "v"))
		}
		return nodePage(0, items...)
	}
	pages := [][]byte{
		nodePage(1, kidItem("", 2), kidItem("d", 3), kidItem("g", 4)), leaf("a", "b"), leaf("d", "e"),
		nodePage(0, leafItem("g", "v"), longItem("h", 600, 5), leafItem("i", "v")), piecePage(600, 0, text(600, 1)),
	}
	for at, want := range map[int][2]string{1: {"", ""}, 2: {"", "ghi"}, 3: {"ab", "ghi"}, 4: {"abde", ""}, 5: {"abdeg", "i"}} {
		bad := slices.Clone(pages)
		bad[at-1] = padded("none")
		p := rooted(t, bad...)
		x := opened(t, p, 0)
		for i, from := range []string{"", "g"} {
			got := ""
			for k := range x.Scan([]byte(from), nil) {
				got += string(k)
			}
			if i == 1 && at == 5 {
				want[1] = "g"
			}
			if got != want[i] {
				t.Errorf("P5.3: page %d is none: Scan %q: %q, not %q", at, from, got, want[i])
			}
		}
		for _, key := range "abdeghi" {
			lost := at == 1 || at == 2 && key < 'd' || at == 3 && key > 'b' && key < 'g' || at == 4 && key > 'e' || at == 5 && key == 'h'
			_, ok, e := x.Get([]byte(string(key)))
			next, there, o := x.Next([]byte(string(key)))
			if ok == lost || (e == api.ErrBroken) != lost {
				t.Errorf("P5.1: page %d is none: Get %c: %v %v", at, key, ok, e)
			}
			if lost = lost && at < 5; there == lost || (o == api.ErrBroken) != lost || !lost && string(next) != string(key) {
				t.Errorf("P5.1: page %d is none: Next %c: %q %v %v", at, key, next, there, o)
			}
		}
		none(t, "page "+strconv.Itoa(at), p, []string{"a", "c", "e", "h", "z"})
	}
}

// spoilt is a tree of three levels with long values, committed, and some of its keys.
func spoilt(t *testing.T) (*pager.Pager, []string) {
	t.Helper()
	p, _ := paged(t, 120)
	x, m := opened(t, p, 0), pairs{}
	for i := range 16 {
		m.put(t, x, strings.Repeat("k", 240)+strconv.Itoa(100+i*37%100)+text(i, 1), text(i*61%250, i))
	}
	m.put(t, x, "long", text(2500, 1))
	m.put(t, x, "text", text(2500, 2))
	wants(t, "Commit", p.Commit(), api.OK)
	alone(t, p, m.check(t, x))
	if i, _ := x.Check(); i.Depth != 3 {
		t.Errorf("P5.3: Check: %v", i)
	}
	keys := []string{"1", "long", "zz"}
	for i, key := range m.keys() {
		if i%4 == 0 {
			keys = append(keys, key)
		}
	}
	return p, keys
}

// TestMoved: each page of a tree has the bytes of each other one: some lead round then. Nothing hangs, and it is known.
func TestMoved(t *testing.T) {
	p, keys := spoilt(t)
	x := opened(t, p, 0)
	good := contentOf(p)
	for page := range good.pages {
		for from, b := range good.pages {
			if from == page {
				continue
			}
			wants(t, "pager.Put", p.Put(page, []byte(b)), api.OK)
			calls(t, "page "+strconv.Itoa(from)+" in "+strconv.Itoa(page), p, x, keys)
			// The last piece of one value may be another one's, and what the root leads to is a tree.
			may := b[0] == 2 && b[:9] == good.pages[page][:9] || page == good.roots[0]
			if _, e := x.Check(); e != api.ErrBroken && !may {
				t.Errorf("P5.3: page %d in %d: Check: %v", from, page, e)
			}
			wants(t, "pager.Put", p.Put(page, []byte(good.pages[page])), api.OK)
		}
	}
	_, e := x.Check()
	wants(t, "P5.3: Check of what is good again", e, api.OK)
}

// TestSpoilt: bytes of a tree's pages are others: nothing hangs and nothing panics, and what is taken for a tree is one.
func TestSpoilt(t *testing.T) {
	p, keys := spoilt(t)
	x := opened(t, p, 0)
	good := contentOf(p)
	next := numbers(5)
	for page, b := range good.pages {
		for at := 0; at < api.Page; at += 1 + at/16 {
			bad := []byte(b)
			bad[at] = []byte{bad[at] ^ 1, bad[at] + 1, bad[at] - 1, 0, 255, byte(next(256))}[next(6)]
			wants(t, "pager.Put", p.Put(page, bad), api.OK)
			calls(t, "page "+strconv.Itoa(page)+", byte "+strconv.Itoa(at), p, x, keys[:4])
		}
		wants(t, "pager.Put", p.Put(page, []byte(b)), api.OK)
	}
}

// TestOther: trees of one pager whose roots are one and the same page, or one in the other.
func TestOther(t *testing.T) {
	p, _ := spoilt(t)
	root, _ := p.Root(0)
	wants(t, "SetRoot", p.SetRoot(1, root), api.OK)
	x, y := opened(t, p, 0), opened(t, p, 1)
	i, e := x.Check()
	j, o := y.Check()
	if i != j || e != api.OK || o != api.OK {
		t.Errorf("P5.3: one tree under two roots: %v %v, %v %v", i, e, j, o)
	}
	wants(t, "P5.2: Clear", x.Clear(), api.OK)
	if i, e := y.Check(); i != (api.TreeInfo{}) || e != api.ErrBroken {
		t.Errorf("P5.3: of pages that were given back: %v %v", i, e)
	}
}
