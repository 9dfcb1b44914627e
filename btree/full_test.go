package btree_test

import (
	"maps"
	"slices"
	"strconv"
	"strings"
	"testing"

	"lexicon/api"
	"lexicon/btree"
	"lexicon/disk"
	"lexicon/pager"
)

// content is what a pager has.
type content struct {
	pages map[int]string
	roots [8]int
}

func contentOf(p *pager.Pager) content {
	c := content{pages: map[int]string{}}
	for page := range p.Taken() {
		b, _ := p.Get(page)
		c.pages[page] = string(b)
	}
	for i := range c.roots {
		c.roots[i], _ = p.Root(i)
	}
	return c
}

func (c content) same(o content) bool { return maps.Equal(c.pages, o.pages) && c.roots == o.roots }

// spare lets a pager have so many pages left, and commits.
func spare(t *testing.T, p *pager.Pager, pages int) {
	t.Helper()
	for {
		if taken, room, _, _ := p.State(); room-taken <= pages {
			break
		}
		_, e := p.Alloc()
		wants(t, "Alloc", e, api.OK)
	}
	wants(t, "Commit", p.Commit(), api.OK)
}

// rolled holds against a pager that its transaction is over, and nothing of it there.
func rolled(t *testing.T, call string, p *pager.Pager, was content) {
	t.Helper()
	if _, _, open, dead := p.State(); open || dead || !contentOf(p).same(was) {
		t.Errorf("%s: with no page left: the transaction is not rolled back", call)
	}
}

// lone is a tree of pairs of all kinds, committed in a pager of room for it, and for no more than so many pages.
func lone(t *testing.T, pages int) (*btree.Tree, *pager.Pager, pairs) {
	t.Helper()
	p, _ := paged(t, 140)
	x, m := opened(t, p, 0), pairs{}
	for i := range 60 {
		m.put(t, x, strconv.Itoa(10+i)+strings.Repeat("k", i*i%298), text(i*53%1100, i))
	}
	spare(t, p, pages)
	return x, p, m
}

// TestFullPut: P5.2: a pager with no page left at each place of Put; what it needs is just what it takes.
func TestFullPut(t *testing.T) {
	long := "3" + strings.Repeat("l", 299)
	for _, put := range [][2]string{
		{"5", text(65536, 1)}, {"5", text(504, 1)}, {"5", text(503, 1)}, {"5", ""}, {long, text(204, 1)}, {long, text(2040, 1)},
		{"11k", text(65536, 1)}, {"11k", ""}, {"69", text(3000, 1)}, {"7", text(500, 1)}, {"\x00", text(500, 1)}, {long[:290], ""},
	} {
		call := "P5.2: Put " + named(put[0]) + " " + named(put[1])
		x, p, m := lone(t, 100)
		before, _ := x.Check()
		m.put(t, x, put[0], put[1])
		after, _ := x.Check()
		needs := after.Pages - before.Pages
		for _, left := range []int{0, 1, 2, needs / 2, needs - 1, needs, needs + 1} {
			if left < 0 {
				continue
			}
			x, p, m = lone(t, left)
			was := contentOf(p)
			m.put(t, x, "12kkkk", text(106, 9)) // of the same transaction, and as long as it was
			if left >= needs {
				m.put(t, x, put[0], put[1])
				m.is(t, x)
				continue
			}
			wants(t, call, x.Put([]byte(put[0]), []byte(put[1])), api.ErrFull)
			rolled(t, call, p, was)
			_, _, m = lone(t, left)
			m.is(t, x)
			wants(t, call+" behind another one", x.Put([]byte(put[0]), []byte(put[1])), api.ErrFull)
			rolled(t, call+" behind another one", p, was)
		}
	}
}

// TestFullAgain: P5.2: what a value gives back is there for the one that takes its place.
func TestFullAgain(t *testing.T) {
	p, _ := paged(t, 80)
	x, m := opened(t, p, 0), pairs{}
	m.put(t, x, "a", text(65536, 1))
	m.put(t, x, "b", text(504, 1))
	spare(t, p, 0)
	m.put(t, x, "a", text(65536, 2))
	m.is(t, x)
	m.put(t, x, "a", text(64*piece, 3))
	m.put(t, x, "b", text(piece+1, 2))
	m.is(t, x)
	wants(t, "Commit", p.Commit(), api.OK)
	was := contentOf(p)
	wants(t, "P5.2: Put", x.Put([]byte("b"), []byte(text(2*piece+1, 2))), api.ErrFull)
	rolled(t, "P5.2: Put", p, was)
	m.is(t, x)
}

// TestFullDelete: P5.2: keys are deleted from a pager with no page left.
func TestFullDelete(t *testing.T) {
	for seed := range 6 {
		x, p, m := lone(t, 0)
		next := numbers(uint32(seed))
		for len(m) > 0 {
			was := contentOf(p)
			key := m.keys()[next(len(m))]
			there, e := x.Delete([]byte(key))
			switch {
			case e == api.ErrFull && !there:
				rolled(t, "P5.2: Delete", p, was)
				t.Logf("seed %d: no room to delete %s", seed, named(key))
			case e != api.OK || !there:
				t.Fatalf("P5.2: Delete %s: %v %v", named(key), there, e)
			default:
				delete(m, key)
				wants(t, "Commit", p.Commit(), api.OK)
			}
			m.check(t, x)
			m.scan(t, x, "", "")
		}
	}
}

// steep is a tree that needs a page more when az is deleted: the leaf goes that is beside a's, the
// page above these takes keys from the next one then, and a longer key stands between the two, for
// which the top has no room.
func steep(t *testing.T, p *pager.Pager) (*btree.Tree, pairs) {
	t.Helper()
	m := pairs{}
	leaf := func(keys ...string) int {
		var items []string
		for _, key := range keys {
			items = append(items, leafItem(key, "v"))
			m[key] = "v"
		}
		return laid(t, p, nodePage(0, items...))
	}
	long := func(by string) string { return strings.Repeat(by, 300) }
	short := func(by string) string { return strings.Repeat(by, 80) }
	kids := []int{
		laid(t, p, nodePage(1, kidItem("", leaf("a")), kidItem("am", leaf("az")))),
		laid(t, p, nodePage(1, kidItem("", leaf("c")), kidItem(long("c"), leaf("d")), kidItem(long("d"), leaf("e")), kidItem(long("e"), leaf("f")), kidItem(short("f"), leaf("g")))),
		laid(t, p, nodePage(1, kidItem("", leaf("gh")), kidItem("gz", leaf("gzz")))),
		laid(t, p, nodePage(1, kidItem("", leaf("hi")), kidItem("hz", leaf("hzz")))),
		laid(t, p, nodePage(1, kidItem("", leaf("ij")), kidItem("iz", leaf("izz", long("z"))))),
	}
	top := nodePage(2, kidItem("", kids[0]), kidItem(short("b"), kids[1]), kidItem(long("g"), kids[2]), kidItem(long("h"), kids[3]), kidItem(long("i"), kids[4]))
	wants(t, "SetRoot", p.SetRoot(0, laid(t, p, top)), api.OK)
	return opened(t, p, 0), m
}

// TestFullLonger: P5.2: Delete needs a page, as a longer key has to stand between pages, and there is none left.
func TestFullLonger(t *testing.T) {
	for left := range 3 {
		p, _ := paged(t, 40)
		x, m := steep(t, p)
		m.is(t, x)
		spare(t, p, left)
		was := contentOf(p)
		if left > 0 {
			before, _ := x.Check()
			m.drop(t, x, "az")
			m.is(t, x)
			if after, _ := x.Check(); after.Pages != before.Pages+1 || after.Depth != before.Depth+1 {
				t.Errorf("%v and then %v: no page more", before, after)
			}
			continue
		}
		wants(t, "SetRoot", p.SetRoot(5, 77), api.OK)
		wants(t, "P5.2: Put", x.Put([]byte("a"), []byte("w")), api.OK)
		for range 2 {
			if there, e := x.Delete([]byte("az")); there || e != api.ErrFull {
				t.Errorf("P5.2: Delete with no page left: %v %v", there, e)
			}
			rolled(t, "P5.2: Delete", p, was)
			m.is(t, x)
		}
		m.drop(t, x, "gzz")
		m.drop(t, x, "az") // there is a page now
		m.is(t, x)
	}
}

// beside tells how many pages a tree has of three leaves, whose keys have values of such lengths, when the middle one's has another one.
func beside(t *testing.T, lengths [3]int, length int) int {
	t.Helper()
	p, _ := paged(t, 40)
	m, items := pairs{}, []string{}
	for i, n := range lengths {
		key, page := string(rune('a'+i)), []string{}
		for n > 500 { // more keys, ahead of that one
			more := key + "ahead" + strconv.Itoa(n)
			if i == 2 {
				more = key + "behind" + strconv.Itoa(n)
			}
			m[more] = text(100, n)
			page = append(page, more)
			n -= len(more) + 100 + heads
		}
		m[key+"b"] = text(n, i)
		page = append(page, key+"b")
		slices.Sort(page)
		for j := range page {
			page[j] = leafItem(page[j], m[page[j]])
		}
		if i == 0 {
			key = ""
		}
		items = append(items, kidItem(key, laid(t, p, nodePage(0, page...))))
	}
	wants(t, "SetRoot", p.SetRoot(0, laid(t, p, nodePage(1, items...))), api.OK)
	x := opened(t, p, 0)
	m.is(t, x)
	m.put(t, x, "bb", text(length, 7))
	pages := m.is(t, x)
	alone(t, p, pages)
	return pages
}

// TestBeside: what is no longer needed is given back: a page of which little is left stands in one with a neighbour, on either side, if both just fit.
func TestBeside(t *testing.T) {
	for _, c := range []struct {
		lengths       [3]int
		length, pages int
	}{
		{[3]int{900, 400, 900}, 200, 4},
		{[3]int{900, 400, 400}, 200, 3},
		{[3]int{400, 400, 900}, 200, 3},
		{[3]int{900, 400, 400}, 400, 4}, // as long as it was
		{[3]int{900, 400, 400}, 401, 4},
		{[3]int{1000, 400, 1000}, 0, 3}, // 8 bytes of 1020
		{[3]int{1004, 400, 1004}, 0, 3},
		{[3]int{1005, 400, 1005}, 0, 4},
		{[3]int{1005, 400, 1004}, 0, 3},
		{[3]int{1004, 400, 1005}, 0, 3},
	} {
		if pages := beside(t, c.lengths, c.length); pages != c.pages {
			t.Errorf("P5.4: leaves of %v, the middle one of %d then: %d pages, not %d", c.lengths, c.length, pages, c.pages)
		}
	}
}

// TestJust: pairs that just fit into a page, and such as just do not.
func TestJust(t *testing.T) {
	for _, lengths := range [][]int{{510, 510}, {400, 400, 220}, {340, 340, 340}, {7, 503, 510}, {311, 311, 200, 198}} {
		for d := range 2 {
			x, p := fresh(t)
			m := pairs{}
			for i, n := range lengths {
				m.put(t, x, string(rune('a'+i)), text(n-heads-1, i))
			}
			if d == 1 {
				m.put(t, x, "z", "")
			}
			pages := m.is(t, x)
			if alone(t, p, pages); pages != 1+2*d {
				t.Errorf("P5.3: pairs of %v bytes, and %d more: %d pages", lengths, d, pages)
			}
		}
	}
}

// TestShort: long keys that differ soon need no long ones between their pages.
func TestShort(t *testing.T) {
	x, _ := fresh(t)
	m := pairs{}
	for i := range 100 {
		m.put(t, x, string([]byte{byte(i * 37 % 100)})+strings.Repeat("k", 299), "")
	}
	m.is(t, x)
	if i, _ := x.Check(); i.Depth != 2 {
		t.Errorf("P5.3: Check: %v", i)
	}
}

// TestDead: a dead pager's tree takes no changes, and tells what it told.
func TestDead(t *testing.T) {
	p, d := paged(t, many)
	x, empty := opened(t, p, 0), opened(t, p, 1)
	bad := opened(t, p, 2)
	m := pairs{}
	for i := range 50 {
		m.put(t, x, strconv.Itoa(i), text(i*i, i))
	}
	wants(t, "SetRoot", p.SetRoot(2, 400), api.OK)
	wants(t, "Commit", p.Commit(), api.OK)
	wants(t, "P5.2: Put", x.Put([]byte("0"), []byte("another")), api.OK)
	d.Feed(api.Fate{Kind: api.FateFail})
	wants(t, "Commit", p.Commit(), api.ErrDisk)
	for _, x := range []*btree.Tree{x, empty, bad} {
		for _, key := range []string{"1", "none"} {
			was, e := x.Delete([]byte(key))
			if was || e != api.ErrDead {
				t.Errorf("P5.2: Delete in a dead one: %v %v", was, e)
			}
			wants(t, "P5.2: Put in a dead one", x.Put([]byte(key), nil), api.ErrDead)
			wants(t, "P5.2: Put of 65537 in a dead one", x.Put([]byte(key), make([]byte, 65537)), api.ErrLong)
		}
		wants(t, "P5.2: Clear of a dead one", x.Clear(), api.ErrDead)
		_, e := x.Delete(nil)
		wants(t, "P5.2: Delete of no key in a dead one", e, api.ErrArg)
		wants(t, "P5.2: Put of no key in a dead one", x.Put(nil, nil), api.ErrArg)
	}
	m.is(t, x)
	pairs{}.is(t, empty)
	_, e := bad.Check()
	wants(t, "P5.3: Check of a dead one that is none", e, api.ErrBroken)
	after, _ := d.Crash()
	q := reopened(t, after)
	alone(t, q, m.is(t, opened(t, q, 0)))
}

// user has trees in a pager that is short of pages, and what they have to have.
type user struct {
	p        *pager.Pager
	d        *disk.Disk
	now, was [3]pairs // was: as committed
}

func (u *user) tree(t *testing.T, i int) *btree.Tree { return opened(t, u.p, 2*i+1) }

func clones(a [3]pairs) [3]pairs {
	for i := range a {
		a[i] = maps.Clone(a[i])
	}
	return a
}

// TestAny: P5.4: calls in no plain order, of trees in one pager, in transactions that last, are let go, or are cut off by a crash; at times no page is left.
func TestAny(t *testing.T) {
	for seed := range uint32(40) {
		t.Run(strconv.Itoa(int(seed)), func(t *testing.T) {
			t.Parallel()
			next := numbers(seed)
			u := &user{now: [3]pairs{{}, {}, {}}, was: [3]pairs{{}, {}, {}}}
			u.p, u.d = paged(t, 30+next(150))
			for range 250 {
				u.call(t, next)
				pages := 0
				for i := range u.now {
					pages += u.now[i].check(t, u.tree(t, i))
				}
				if alone(t, u.p, pages); t.Failed() {
					return
				}
			}
			for i := range u.now {
				u.now[i].is(t, u.tree(t, i))
			}
		})
	}
}

// call makes one call.
func (u *user) call(t *testing.T, next func(int) int) {
	i := next(3)
	x, m := u.tree(t, i), u.now[i]
	key := anyKey(next)
	switch next(24) {
	case 0:
		wants(t, "Commit", u.p.Commit(), api.OK)
		u.was = clones(u.now)
	case 1:
		wants(t, "Rollback", u.p.Rollback(), api.OK)
		u.now = clones(u.was)
	case 2:
		if next(4) == 0 {
			u.d, _ = u.d.Crash()
			u.p = reopened(t, u.d)
			u.now = clones(u.was)
		}
	case 3:
		if next(5) == 0 {
			wants(t, "P5.2: Clear", x.Clear(), api.OK)
			clear(m)
		}
	case 4, 5, 6, 7, 8, 9, 10, 11, 12:
		u.put(t, i, key, text([4]int{next(30), next(520), next(520), next(20000)}[next(4)], next(256)))
	case 13, 14, 15, 16, 17, 18, 19:
		if k, ok := m.next(key); ok {
			key = k
		}
		u.drop(t, i, key)
	case 20:
		m.scan(t, x, key, anyKey(next))
	default:
		m.get(t, x, key)
		m.after(t, x, key)
	}
}

// anyKey is some key, one of not too many.
func anyKey(next func(int) int) string {
	key := strconv.Itoa(next(12)) + strings.Repeat(string(rune('a'+next(3))), []int{0, 1, 40, 200, 290}[next(5)])
	return key + strconv.Itoa(next(12))
}

// put puts a pair, if there is room.
func (u *user) put(t *testing.T, i int, key, value string) {
	t.Helper()
	x := u.tree(t, i)
	info, _ := x.Check()
	taken, room, _, _ := u.p.State()
	switch e := x.Put([]byte(key), []byte(value)); {
	case e == api.OK:
		u.now[i][key] = value
	case e == api.ErrFull && room-taken < len(value)/piece+info.Depth+3:
		u.now = clones(u.was)
	default:
		t.Errorf("P5.2: Put %s %s with %d pages left: %v", named(key), named(value), room-taken, e)
	}
}

// drop deletes a key, if there is room.
func (u *user) drop(t *testing.T, i int, key string) {
	t.Helper()
	_, there := u.now[i][key]
	taken, room, _, _ := u.p.State()
	switch was, e := u.tree(t, i).Delete([]byte(key)); {
	case was == there && e == api.OK:
		delete(u.now[i], key)
	case !was && e == api.ErrFull && there && taken == room:
		u.now = clones(u.was)
	default:
		t.Errorf("P5.2: Delete %s with %d pages left: %v %v, not %v", named(key), room-taken, was, e, there)
	}
}

// laid lets a page of a pager have bytes.
func laid(t *testing.T, p *pager.Pager, b []byte) int {
	t.Helper()
	page, e := p.Alloc()
	wants(t, "Alloc", e, api.OK)
	wants(t, "pager.Put", p.Put(page, b), api.OK)
	return page
}

// number is some bytes of a number.
func number(n, width int) string {
	b := make([]byte, width)
	for i := range b {
		b[i] = byte(n >> (8 * i))
	}
	return string(b)
}

// padded is a page that begins with these bytes.
func padded(s string) []byte { return append([]byte(s), make([]byte, api.Page)...)[:api.Page] }

// nodePage is a page of keys.
func nodePage(level int, items ...string) []byte {
	return padded("\x01" + number(level, 1) + number(len(items), 2) + strings.Join(items, ""))
}

// leafItem is a key with a short value, longItem one whose value begins in a page, kidItem one that leads to a page.
func leafItem(key, value string) string {
	return number(len(key), 2) + key + number(len(value), 4) + value
}

func longItem(key string, size, page int) string {
	return number(len(key), 2) + key + number(size, 4) + number(page, 4)
}

func kidItem(key string, page int) string { return number(len(key), 2) + key + number(page, 4) }

// piecePage is a page of a value, of which so many bytes are there and behind it.
func piecePage(size, next int, bytes string) []byte {
	return padded("\x02" + number(size, 4) + number(next, 4) + bytes)
}

// TestBytes: pages are as they are made here.
func TestBytes(t *testing.T) {
	x, p := fresh(t)
	value := text(2*piece+7, 1)
	wants(t, "P5.2: Put", x.Put([]byte("b"), []byte(value)), api.OK)
	wants(t, "P5.2: Put", x.Put([]byte("a"), []byte("1")), api.OK)
	c := contentOf(p)
	third := slices.Index([]bool{c.pages[1][0] == 2, c.pages[2][0] == 2, c.pages[3][0] == 2}, true) + 1
	want := map[int]string{
		third:     string(piecePage(7, 0, value[2*piece:])),
		third + 1: string(piecePage(piece+7, third, value[piece:2*piece])),
		third + 2: string(piecePage(2*piece+7, third+1, value[:piece])),
	}
	want[c.roots[0]] = string(nodePage(0, leafItem("a", "1"), longItem("b", len(value), third+2)))
	if !maps.Equal(c.pages, want) {
		t.Errorf("pages are laid in another way")
	}
}
