package btree_test

import (
	"bytes"
	"maps"
	"math"
	"slices"
	"strconv"
	"strings"
	"testing"

	"lexicon/api"
	"lexicon/btree"
	"lexicon/disk"
	"lexicon/pager"
)

const (
	log  = 600 // sectors of the log that most tests have
	many = 450 // pages behind it

	half  = 510  // bytes of a page that a key may have, with its value and the lengths of both
	heads = 6    // bytes of these lengths
	piece = 1015 // bytes of a value that a page of its own has
)

// pairs is what a tree has to have.
type pairs map[string]string

// keys tells the keys, rising.
func (m pairs) keys() []string { return slices.Sorted(maps.Keys(m)) }

// next tells the least key that is not below one.
func (m pairs) next(key string) (string, bool) {
	keys := m.keys()
	if i, _ := slices.BinarySearch(keys, key); i < len(keys) {
		return keys[i], true
	}
	return "", false
}

// paged is a pager of so many pages, and its disk.
func paged(t *testing.T, pages int) (*pager.Pager, *disk.Disk) {
	t.Helper()
	d, e := disk.New(log + 2*(pages+1))
	wants(t, "disk.New", e, api.OK)
	wants(t, "pager.Format", pager.Format(d, log), api.OK)
	return reopened(t, d), d
}

// reopened is the pager that a disk has.
func reopened(t *testing.T, d *disk.Disk) *pager.Pager {
	t.Helper()
	p, e := pager.Open(d, log)
	if e != api.OK {
		t.Fatalf("pager.Open: %v", e)
	}
	return p
}

// opened is the tree under a root.
func opened(t *testing.T, p *pager.Pager, root int) *btree.Tree {
	t.Helper()
	x, e := btree.Open(p, root)
	if x == nil || e != api.OK {
		t.Fatalf("P5.1: Open(%d): %v %v", root, x, e)
	}
	return x
}

// fresh is a tree without keys, and its pager.
func fresh(t *testing.T) (*btree.Tree, *pager.Pager) {
	t.Helper()
	p, _ := paged(t, many)
	return opened(t, p, 0), p
}

// wants holds what a call answered against what it has to.
func wants(t *testing.T, call string, got, want api.Errno) {
	t.Helper()
	if got != want {
		t.Errorf("%s: %v, not %v", call, got, want)
	}
}

// named tells a key or a value in few letters.
func named(s string) string {
	if len(s) > 12 {
		return strconv.Quote(s[:6]+".."+s[len(s)-4:]) + " (" + strconv.Itoa(len(s)) + ")"
	}
	return strconv.Quote(s)
}

// put puts a pair into a tree, and into what it has to have.
func (m pairs) put(t *testing.T, x *btree.Tree, key, value string) {
	t.Helper()
	wants(t, "P5.2: Put "+named(key)+" "+named(value), x.Put([]byte(key), []byte(value)), api.OK)
	m[key] = value
}

// drop deletes a key from a tree, and from what it has to have.
func (m pairs) drop(t *testing.T, x *btree.Tree, key string) {
	t.Helper()
	_, there := m[key]
	was, e := x.Delete([]byte(key))
	if was != there || e != api.OK {
		t.Errorf("P5.2: Delete %s: %v %v, not %v", named(key), was, e, there)
	}
	delete(m, key)
}

// get holds a key's value against what it has to be.
func (m pairs) get(t *testing.T, x *btree.Tree, key string) {
	t.Helper()
	want, there := m[key]
	v, ok, e := x.Get([]byte(key))
	if string(v) != want || ok != there || e != api.OK {
		t.Errorf("P5.1: Get %s: %s %v %v, not %s %v", named(key), named(string(v)), ok, e, named(want), there)
	}
}

// after holds the key that is next to one against what it has to be.
func (m pairs) after(t *testing.T, x *btree.Tree, key string) {
	t.Helper()
	want, there := m.next(key)
	k, ok, e := x.Next([]byte(key))
	if string(k) != want || ok != there || e != api.OK {
		t.Errorf("P5.1: Next %s: %s %v %v, not %s %v", named(key), named(string(k)), ok, e, named(want), there)
	}
}

// scan holds what is gone over against what has to be.
func (m pairs) scan(t *testing.T, x *btree.Tree, from, until string) {
	t.Helper()
	var want []string
	for _, key := range m.keys() {
		if key >= from && (until == "" || key < until) {
			want = append(want, key)
		}
	}
	var got []string
	for k, v := range x.Scan([]byte(from), []byte(until)) {
		got = append(got, string(k))
		if want := m[string(k)]; string(v) != want {
			t.Errorf("P5.3: Scan tells %s %s, not %s", named(string(k)), named(string(v)), named(want))
		}
	}
	if !slices.Equal(got, want) {
		t.Errorf("P5.3: Scan %s %s: %d keys, not %d", named(from), named(until), len(got), len(want))
	}
}

// check holds what Check tells against what it has to, and tells how many pages there are.
func (m pairs) check(t *testing.T, x *btree.Tree) int {
	t.Helper()
	i, e := x.Check()
	wants(t, "P5.4: Check", e, api.OK)
	long := 0 // pages of long values
	for key, value := range m {
		if n := len(key) + len(value) + heads; n > half {
			long += (len(value) + piece - 1) / piece
		}
	}
	// Each page above the leaves leads to two at least, and each leaf has a key.
	least := 1<<i.Depth - 1 + long
	if i.Keys != len(m) || (i.Depth == 0) != (len(m) == 0) || i.Pages < least || len(m) > 0 && len(m) < 1<<(i.Depth-1) {
		t.Errorf("P5.3: Check %v: %d keys, at least %d pages", i, len(m), least)
	}
	return i.Pages
}

// is holds all that a tree tells against what it has to have.
func (m pairs) is(t *testing.T, x *btree.Tree) int {
	t.Helper()
	m.scan(t, x, "", "")
	m.after(t, x, "")
	m.after(t, x, strings.Repeat("\xff", api.MaxKey))
	for _, key := range m.keys() {
		for _, k := range []string{key, key + "\x00", key[:len(key)-1], key[:len(key)-1] + string([]byte{key[len(key)-1] - 1})} {
			if len(k) > api.MaxKey {
				continue
			}
			m.after(t, x, k)
			if len(k) > 0 {
				m.get(t, x, k)
			}
		}
	}
	return m.check(t, x)
}

// alone holds against a pager that it has no pages but so many.
func alone(t *testing.T, p *pager.Pager, pages int) {
	t.Helper()
	if taken, _, _, _ := p.State(); taken != pages {
		t.Errorf("P5.4: %d pages are taken, and trees have %d", taken, pages)
	}
}

// numbers tells numbers below those that it is asked, in no plain order, the same ones each time.
func numbers(seed uint32) func(below int) int {
	x := seed*2654435761 + 12345
	return func(below int) int {
		x = x*1664525 + 1013904223
		return int(x>>8) % below
	}
}

// text is some bytes, of which each has another one beside it.
func text(n, seed int) string {
	b := make([]byte, n)
	for i := range b {
		b[i] = byte(i*7 + i/256 + seed)
	}
	return string(b)
}

// TestExamples: the chapter's own.
func TestExamples(t *testing.T) {
	x, p := fresh(t)
	m := pairs{}
	m.put(t, x, "b", "1")
	m.put(t, x, "a", "2")
	m.scan(t, x, "", "")
	m.get(t, x, "a")
	m.get(t, x, "c")
	m.after(t, x, "aa")
	m.drop(t, x, "a")
	m.drop(t, x, "a")
	wants(t, "P5.2: Put of no key", x.Put(nil, []byte("x")), api.ErrArg)
	wants(t, "P5.2: Put of 301 bytes", x.Put(make([]byte, 301), []byte("x")), api.ErrArg)
	if x, e := btree.Open(p, 8); x != nil || e != api.ErrArg {
		t.Errorf("P5.1: Open(8): %v %v", x, e)
	}
	if i, e := x.Check(); i != (api.TreeInfo{Keys: 1, Depth: 1, Pages: 1}) || e != api.OK {
		t.Errorf("P5.3: Check: %v %v", i, e)
	}
}

// TestNone: a tree that is not there, or that no call made, and a pager that is not.
func TestNone(t *testing.T) {
	for _, x := range []*btree.Tree{nil, new(btree.Tree)} {
		for _, key := range [][]byte{nil, []byte("a"), make([]byte, 301)} {
			v, ok, e := x.Get(key)
			k, there, o := x.Next(key)
			was, u := x.Delete(key)
			i, c := x.Check()
			if v != nil || ok || k != nil || there || was || i != (api.TreeInfo{}) {
				t.Errorf("P5.1: of none: %v %v %v %v %v %v", v, ok, k, there, was, i)
			}
			for n, e := range []api.Errno{e, o, u, c, x.Put(key, nil), x.Put(key, make([]byte, 65537)), x.Clear()} {
				wants(t, "P5.1: of none: "+strconv.Itoa(n), e, api.ErrNil)
			}
			for k, v := range x.Scan(key, nil) {
				t.Errorf("P5.3: Scan of none: %v %v", k, v)
			}
		}
	}
	for _, p := range []*pager.Pager{nil, new(pager.Pager)} {
		for _, root := range []int{0, 7, -1, 8} {
			if x, e := btree.Open(p, root); x != nil || e != api.ErrNil {
				t.Errorf("P5.1: Open of no pager, %d: %v %v", root, x, e)
			}
		}
	}
}

// TestRoots: P5.1: which roots there are; each has a tree of its own.
func TestRoots(t *testing.T) {
	p, _ := paged(t, many)
	for _, root := range []int{-1, 8, 9, math.MinInt, math.MaxInt} {
		if x, e := btree.Open(p, root); x != nil || e != api.ErrArg {
			t.Errorf("P5.1: Open(%d): %v %v", root, x, e)
		}
	}
	if _, _, open, _ := p.State(); open {
		t.Error("P5.1: Open begins a transaction")
	}
	for root := range 8 {
		x := opened(t, p, root)
		pairs{}.is(t, x)
		pairs{}.put(t, x, "key", strconv.Itoa(root))
	}
	for root := range 8 {
		x := opened(t, p, root)
		pairs{"key": strconv.Itoa(root)}.is(t, x)
	}
	alone(t, p, 8)
}

// TestKeys: P5.1, P5.2: how long a key may be.
func TestKeys(t *testing.T) {
	x, p := fresh(t)
	m := pairs{}
	for _, n := range []int{1, 2, 150, 299, 300} {
		m.put(t, x, text(n, n), text(n, 0))
		m.is(t, x)
	}
	for _, key := range [][]byte{nil, {}, make([]byte, 301), make([]byte, 1024), make([]byte, 70000)} {
		v, ok, e := x.Get(key)
		was, o := x.Delete(key)
		if v != nil || ok || was {
			t.Errorf("P5.1: %d bytes of a key: %v %v %v", len(key), v, ok, was)
		}
		for i, e := range []api.Errno{e, o, x.Put(key, nil), x.Put(key, make([]byte, 65537))} {
			wants(t, "P5.1: "+strconv.Itoa(len(key))+" bytes of a key: "+strconv.Itoa(i), e, api.ErrArg)
		}
	}
	alone(t, p, m.is(t, x))
}

// TestValues: P5.2: how long a value may be: at the bounds, and where it just has room in a page, beside its key or alone, or just has not.
func TestValues(t *testing.T) {
	p, _ := paged(t, 1000)
	x := opened(t, p, 0)
	m := pairs{}
	for _, n := range []int{1, 2, 10, 100, 299, 300} {
		for d := -2; d <= 2; d++ {
			m.put(t, x, text(n, d), text(half-heads-n+d, n))
		}
	}
	lengths := []int{0, 1, 1023, 1024, 1025, 32768, 65535, 65536}
	for _, pages := range []int{1, 2, 3, 64} {
		for d := -2; d <= 2; d++ {
			lengths = append(lengths, pages*piece+d)
		}
	}
	for _, n := range lengths {
		m.put(t, x, "of "+strconv.Itoa(n), text(n, n))
		alone(t, p, m.check(t, x))
		wants(t, "P5.2: Put of 65537", x.Put([]byte("of "+strconv.Itoa(n)), make([]byte, 65537)), api.ErrLong)
	}
	wants(t, "P5.2: Put of 65537", x.Put([]byte("new"), make([]byte, 65537)), api.ErrLong)
	wants(t, "P5.2: Put of 2^20", x.Put([]byte("new"), make([]byte, 1<<20)), api.ErrLong)
	m.is(t, x)
	for _, key := range m.keys() {
		m.drop(t, x, key)
		alone(t, p, m.check(t, x))
	}
}

// TestBeginnings: P5.4: keys that are beginnings of others, in order byte by byte.
func TestBeginnings(t *testing.T) {
	for _, long := range []string{strings.Repeat("\x00", 300), strings.Repeat("\xff", 300), strings.Repeat("\x00\xff", 150), text(300, 1)} {
		x, p := fresh(t)
		m := pairs{}
		next := numbers(1)
		var lengths []int
		for n := 1; n <= 300; n += 3 {
			lengths = slices.Insert(lengths, next(len(lengths)+1), n)
		}
		for _, n := range lengths {
			m.put(t, x, long[:n], text(n%50, n))
		}
		alone(t, p, m.is(t, x))
		m.scan(t, x, long[:40], long[:70])
		m.scan(t, x, long[:41], long[:42])
		for _, n := range lengths {
			m.drop(t, x, long[:n])
			alone(t, p, m.check(t, x))
		}
	}
}

// TestNext: P5.1: of no bytes, of keys between, above all, and of too many bytes.
func TestNext(t *testing.T) {
	x, _ := fresh(t)
	m := pairs{}
	m.after(t, x, "")
	m.after(t, x, "a")
	for i := range 200 {
		m.put(t, x, strconv.Itoa(1000+5*i), text(i, i))
	}
	for i := range 1100 {
		m.after(t, x, strconv.Itoa(950+i))
		m.after(t, x, strconv.Itoa(950+i)+"x")
	}
	for _, key := range []string{"", "\x00", "0", "1", "2", "z", strings.Repeat("0", 300), strings.Repeat("z", 300)} {
		m.after(t, x, key)
	}
	for _, n := range []int{301, 302, 65536} {
		for _, by := range []string{"\x00", "z"} {
			if k, ok, e := x.Next([]byte(strings.Repeat(by, n))); k != nil || ok || e != api.ErrArg {
				t.Errorf("P5.1: Next of %d bytes: %v %v %v", n, k, ok, e)
			}
		}
	}
}

// TestScan: P5.3: from where, until where.
func TestScan(t *testing.T) {
	x, _ := fresh(t)
	m := pairs{}
	m.scan(t, x, "", "")
	m.scan(t, x, "a", "b")
	for i := range 60 {
		m.put(t, x, string(rune('A'+i))+strings.Repeat("k", i*37%200), text(i*19%700, i))
	}
	ends := []string{"", "\x00", "A", "\xff", strings.Repeat("z", 400), strings.Repeat("A", 400)}
	for _, key := range m.keys() {
		ends = append(ends, key, key+"\x00", key[:len(key)/2+1])
	}
	for _, from := range ends {
		for i := 0; i < len(ends); i += 1 + len(from)%5 {
			m.scan(t, x, from, ends[i])
		}
		m.scan(t, x, from, from)
		m.scan(t, x, from, "")
	}
}

// TestScanKeeps: P5.3: it is as the tree was when it was called, is left at any time, and gone through as often as one likes; who is told something may change it.
func TestScanKeeps(t *testing.T) {
	x, p := fresh(t)
	m := pairs{}
	for i := range 80 {
		m.put(t, x, "k"+strconv.Itoa(100+i), text(i*40, i))
	}
	keys := m.keys()
	from, until := []byte("k110"), []byte("k170")
	all := x.Scan(from, until)
	copy(from, "zzzz")
	copy(until, "aaaa")
	for i, key := range keys {
		switch i % 3 {
		case 0:
			wants(t, "P5.2: Put", x.Put([]byte(key), []byte("another")), api.OK)
		case 1:
			_, e := x.Delete([]byte(key))
			wants(t, "P5.2: Delete", e, api.OK)
		}
		wants(t, "P5.2: Put", x.Put([]byte(key+"new"), nil), api.OK)
	}
	for left := range 62 {
		if left == 31 {
			wants(t, "P5.2: Clear", x.Clear(), api.OK)
			wants(t, "Rollback", p.Rollback(), api.OK)
		}
		n := 0
		for k, v := range all {
			if key := keys[10+n]; string(k) != key || string(v) != m[key] {
				t.Fatalf("P5.3: %d of Scan: %s %s, not %s %s", n, k, named(string(v)), key, named(m[key]))
			}
			clear(k)
			clear(v)
			_, _ = append(k, 'x'), append(v, 'x')
			if n == left {
				break
			}
			n++
		}
		if n != min(left, 60) {
			t.Errorf("P5.3: Scan tells %d, and is left at %d", n, left)
		}
	}
}

// TestHandedIn: what is handed in is not changed and not kept, spare room behind it included; answers are new memory.
func TestHandedIn(t *testing.T) {
	x, _ := fresh(t)
	m := pairs{}
	for i := range 120 {
		n, v := 1+i*7%300, i*211%3000
		key, value := []byte(text(n, i)+"spare room"), []byte(text(v, i)+"spare room")
		wants(t, "P5.2: Put", x.Put(key[:n], value[:v]), api.OK)
		x.Get(key[:n])
		x.Next(key[:n])
		for range x.Scan(key[:n], key[:n]) {
		}
		if string(key) != text(n, i)+"spare room" || string(value) != text(v, i)+"spare room" {
			t.Errorf("P5.2: Put changes what it is handed")
		}
		m[text(n, i)] = text(v, i)
		clear(key)
		clear(value)
	}
	for key := range m {
		there := []byte(key + "spare room")
		gone := append([]byte("none"), there...)
		x.Delete(gone[:len(key)])
		if string(gone) != "none"+key+"spare room" {
			t.Errorf("P5.2: Delete changes what it is handed")
		}
	}
	for _, key := range m.keys() {
		v, _, _ := x.Get([]byte(key))
		k, _, _ := x.Next([]byte(key))
		clear(v)
		clear(k)
		_, _ = append(v, 'x'), append(k, 'x')
	}
	m.is(t, x)
}

// orders are ways to go through n things: rising, falling, mixed, and from the middle to both ends.
func orders(n int) map[string][]int {
	next := numbers(uint32(n))
	m := map[string][]int{}
	for i := range n {
		m["rising"] = append(m["rising"], i)
		m["falling"] = append(m["falling"], n-1-i)
		m["mixed"] = slices.Insert(m["mixed"], next(i+1), i)
		out := n/2 + i/2
		if i%2 == 1 {
			out = n/2 - 1 - i/2
		}
		m["outward"] = append(m["outward"], out)
	}
	return m
}

// TestOrders: P5.4: many keys, short and long ones, put in each order, and deleted in each till none is left; it is checked behind each call.
func TestOrders(t *testing.T) {
	const n = 160
	shapes := map[string]func(i int) (string, string){
		"short": func(i int) (string, string) { return strconv.Itoa(1000 + i), strconv.Itoa(i) },
		"long":  func(i int) (string, string) { return strings.Repeat("k", 296) + strconv.Itoa(1000+i), "v" },
		"mixed": func(i int) (string, string) {
			return strconv.Itoa(1000+i) + strings.Repeat("k", i*i%297), text(i*i*i%600, i)
		},
		"ahead": func(i int) (string, string) { // their beginnings differ at times alone
			return strings.Repeat(strconv.Itoa(10+i/13), 150)[:100+i/13%7*20] + strconv.Itoa(1000+i), text(i*31%400, i)
		},
	}
	for shape, pair := range shapes {
		for in, puts := range orders(n) {
			for out, drops := range orders(n) {
				t.Run(shape+" "+in+" "+out, func(t *testing.T) {
					t.Parallel()
					order(t, pair, puts, drops)
				})
			}
		}
	}
}

func order(t *testing.T, pair func(i int) (string, string), puts, drops []int) {
	x, p := fresh(t)
	m := pairs{}
	for n, i := range puts {
		key, value := pair(i)
		m.put(t, x, key, value)
		alone(t, p, m.check(t, x))
		if n%60 == 0 {
			m.is(t, x)
		}
	}
	m.is(t, x)
	for n, i := range drops {
		key, _ := pair(i)
		m.drop(t, x, key)
		alone(t, p, m.check(t, x))
		if n%60 == 0 {
			m.is(t, x)
		}
	}
	m.is(t, x)
	if i, e := x.Check(); i != (api.TreeInfo{}) || e != api.OK {
		t.Errorf("P5.4: a tree without keys has %v %v", i, e)
	}
	if r, _ := p.Root(0); r != 0 {
		t.Errorf("P5.4: the root of a tree without keys leads to %d", r)
	}
}

// TestAgain: P5.2: one key is put again, with shorter and longer values, alone and among others.
func TestAgain(t *testing.T) {
	for _, others := range []int{0, 1, 3, 100} {
		x, p := fresh(t)
		m := pairs{}
		for i := range others {
			m.put(t, x, strconv.Itoa(i), text(i*17%400, i))
		}
		for _, n := range []int{0, 500, 0, 65536, 65536, 1, 503, 504, 503, 502, 1015, 1016, 1015, 2000, 4000, 3000, 200, 65000, 0, 100, 300, 500, 400, 10} {
			m.put(t, x, "5x", text(n, n))
			alone(t, p, m.is(t, x))
			m.put(t, x, "5x", text(n, n+1))
			alone(t, p, m.is(t, x))
		}
		m.drop(t, x, "5x")
		alone(t, p, m.is(t, x))
	}
}

// TestShrink: P5.4: all values get shorter, and longer again: pages that are no longer needed are given back.
func TestShrink(t *testing.T) {
	x, p := fresh(t)
	m := pairs{}
	for _, n := range []int{400, 0, 503, 20, 504, 3, 0} {
		for i := range 100 {
			m.put(t, x, string(rune('A'+i%50))+strconv.Itoa(i), text(n, i))
			alone(t, p, m.check(t, x))
		}
		// Two pages beside each other have more than one has room for, or one of them half of that.
		if pages := m.is(t, x); n < 100 && pages > 4+100*(n+10)/250 {
			t.Errorf("P5.4: values of %d bytes: %d pages", n, pages)
		}
	}
}

// TestClear: P5.2: of a tree with keys, and of one without.
func TestClear(t *testing.T) {
	p, _ := paged(t, many)
	x, y := opened(t, p, 3), opened(t, p, 4)
	wants(t, "P5.2: Clear", x.Clear(), api.OK)
	if _, _, open, _ := p.State(); open {
		t.Error("P5.2: Clear of a tree without keys begins a transaction")
	}
	m, n := pairs{}, pairs{}
	n.put(t, y, "of the other one", text(3000, 1))
	for _, keys := range []int{1, 2, 10, 200, 0} {
		for i := range keys {
			m.put(t, x, strconv.Itoa(i)+strings.Repeat("k", i), text(i*13%1300, i))
		}
		wants(t, "P5.2: Clear", x.Clear(), api.OK)
		clear(m)
		alone(t, p, m.is(t, x)+n.is(t, y))
	}
}

// TestUnchanged: what is refused, or leaves all as it was, begins no transaction.
func TestUnchanged(t *testing.T) {
	x, p := fresh(t)
	m := pairs{}
	for i := range 100 {
		m.put(t, x, strconv.Itoa(i), text(200, i))
	}
	wants(t, "Commit", p.Commit(), api.OK)
	m.drop(t, x, "x")
	m.drop(t, x, "0x")
	m.put(t, x, "5", m["5"])
	m.is(t, x)
	x.Put(nil, nil)
	x.Put([]byte("1"), make([]byte, 65537))
	x.Delete(nil)
	if _, _, open, _ := p.State(); open {
		t.Error("P5.2: what leaves all as it was begins a transaction")
	}
}

// TestTrees: P5.4: two trees in one pager, changed in turns; each is looked at through another object, too.
func TestTrees(t *testing.T) {
	p, _ := paged(t, many)
	x, y := opened(t, p, 0), opened(t, p, 7)
	m, n := pairs{}, pairs{}
	next := numbers(3)
	for i := range 400 {
		key, value := strconv.Itoa(next(120))+strings.Repeat("k", next(100)), text(next(800), i)
		switch next(3) {
		case 0:
			m.put(t, x, key, value)
		case 1:
			n.put(t, opened(t, p, 7), key, value)
		default:
			m.drop(t, opened(t, p, 0), key)
			n.drop(t, y, key)
			if k, ok := n.next(key); ok {
				n.drop(t, y, k)
			}
		}
		alone(t, p, m.check(t, x)+n.check(t, y))
	}
	m.is(t, opened(t, p, 0))
	n.is(t, opened(t, p, 7))
	wants(t, "P5.2: Clear", x.Clear(), api.OK)
	alone(t, p, n.is(t, y))
}

// TestTransactions: changes last with the pager's Commit, and are let go with its Rollback.
func TestTransactions(t *testing.T) {
	p, d := paged(t, many)
	x := opened(t, p, 2)
	m := pairs{}
	for i := range 100 {
		m.put(t, x, strconv.Itoa(i*37%100), text(i*29%1500, i))
	}
	wants(t, "Commit", p.Commit(), api.OK)
	was := maps.Clone(m)
	for i := range 50 {
		m.drop(t, x, strconv.Itoa(2*i))
		m.put(t, x, strconv.Itoa(2*i+1), text(700, i))
		m.put(t, x, "new"+strconv.Itoa(i), "")
	}
	m.is(t, x)
	if _, _, open, _ := p.State(); !open {
		t.Error("P5.2: changes are no transaction's")
	}
	wants(t, "Rollback", p.Rollback(), api.OK)
	alone(t, p, was.is(t, x))
	wants(t, "P5.2: Clear", x.Clear(), api.OK)
	after, _ := d.Crash()
	q := reopened(t, after)
	alone(t, q, was.is(t, opened(t, q, 2)))
	wants(t, "Commit", p.Commit(), api.OK)
	after, _ = d.Crash()
	q = reopened(t, after)
	alone(t, q, pairs{}.is(t, opened(t, q, 2)))
}

// TestSame: what is put and deleted hangs on nothing else: the same calls leave the same bytes.
func TestSame(t *testing.T) {
	var disks [2]*disk.Disk
	for i := range disks {
		p, d := paged(t, many)
		x := opened(t, p, 0)
		next := numbers(9)
		for range 300 {
			key := []byte(strconv.Itoa(next(90)) + strings.Repeat("k", next(150)))
			if next(3) > 0 {
				x.Put(key, bytes.Repeat([]byte{'v'}, next(700)))
			} else if k, ok, _ := x.Next(key); ok {
				x.Delete(k)
			}
		}
		wants(t, "Commit", p.Commit(), api.OK)
		disks[i] = d
	}
	if !disks[0].Same(disks[1]) {
		t.Error("P5.4: the same calls lay another thing")
	}
}
