package tables_test

import (
	"slices"
	"strconv"
	"testing"

	"lexicon/api"
	"lexicon/btree"
	"lexicon/disk"
	"lexicon/pager"
	"lexicon/tables"
)

// refused holds that a batch is, and that it leaves the disk as it was.
func refused(t *testing.T, call string, b *tables.DB, d *disk.Disk, want api.Errno, l ...api.Change) {
	t.Helper()
	steps, was := stepsOf(d), d.Copy()
	wants(t, call, b.Apply(l...), want)
	if stepsOf(d) != steps || !d.Same(was) || b.Dead() {
		t.Errorf("%s: it is refused, and takes a step, or the DB is dead", call)
	}
}

// twenty are rows of so many bytes.
func twenty(n int) []api.Change {
	var l []api.Change
	for i := range 20 {
		l = append(l, put("u", key(i), text(n, i)))
	}
	return l
}

// TestFullPages: P6.2: batches for which no page is left: nothing of them is made, and what needs no page goes.
func TestFullPages(t *testing.T) {
	const log, pages = 400, 30
	d := formatted(t, log+2*pages, log)
	b := opened(t, d, log)
	m := rows{}.apply(t, b, put("t", key("first"), "1"), put("u", key(1), text(5000, 1)))
	long := put("t", key("long"), text(65536, 1))
	for call, l := range map[string][]api.Change{
		"a long row": {long}, "a row, and a long one": {put("t", key("a"), "x"), long}, "a long row, and another": {long, put("t", key("a"), "x")},
		"rows that go, and a long one": {gone("t", key("first")), gone("u", key(1)), put("t", key("first"), "2"), long, put("t", key("a"), "x")},
		"a row, twice, and a long one": {put("t", key("first"), "2"), gone("t", key("first")), long},
		"20 rows of 2000 bytes":        twenty(2000),
	} {
		refused(t, "P6.2: Apply of "+call, b, d, api.ErrFull, l...)
		m.is(t, b)
		after, _ := d.Crash()
		m.is(t, opened(t, after, log))
		m = m.apply(t, b, put("t", key("first"), call))
		m.is(t, b)
	}
	n := 0
	for ; ; n++ { // till there is no room
		c := put("t", key("n", n), text(900, n))
		if e := b.Apply(c); e != api.OK {
			wants(t, "P6.2: Apply of row "+strconv.Itoa(n), e, api.ErrFull)
			break
		}
		m = m.with(c)
	}
	if n < 8 || n > pages {
		t.Errorf("P6.2: %d rows of 900 bytes have room in %d pages", n, pages)
	}
	m.is(t, b)
	refused(t, "P6.2: Apply of one more", b, d, api.ErrFull, put("t", key("n", 0), "short"), put("t", key("n", n), text(3000, n)))
	m.is(t, b)
	m = m.apply(t, b, gone("u", key(1)), put("t", key("n", n), text(3000, n))) // in their order
	m.is(t, b)
	for i := range n + 1 {
		m = m.apply(t, b, gone("t", key("n", i)))
	}
	m.is(t, b)
	after, _ := d.Crash()
	m.is(t, opened(t, after, log))
}

// TestFullLog: P6.2: batches for which the log has no room, though there are pages: nothing of them is made.
func TestFullLog(t *testing.T) {
	const log = 20
	d := formatted(t, size, log)
	b := opened(t, d, log)
	m := rows{}.apply(t, b, put("t", key(0), "0"))
	for i := range 60 {
		l := []api.Change{put("t", key(1), text(20000, i)), put("t", key(0), "none"), gone("t", key(i+2))}
		if i%2 == 0 {
			l = twenty(900)
		}
		refused(t, "P6.2: Apply of what the log has no room for", b, d, api.ErrFull, l...)
		m.is(t, b)
		m = m.apply(t, b, put("t", key(i%2), text(i*13%900, i)))
	}
	m.is(t, b)
	after, _ := d.Crash()
	m.is(t, opened(t, after, log))
}

// TestFullDead: P6.2: a DB is not dead, and no step is, behind ErrFull; a fault meets the next batch that goes.
func TestFullDead(t *testing.T) {
	const log = 100
	d := formatted(t, log+20, log)
	b := opened(t, d, log)
	m := rows{}.apply(t, b, put("t", key(0), "0"))
	d.Feed(api.Fate{Kind: api.FateFail})
	refused(t, "P6.2: Apply of a long row", b, d, api.ErrFull, put("t", key(0), text(65536, 1)))
	m.is(t, b)
	wants(t, "P6.2: Apply", b.Apply(put("t", key(0), "1")), api.ErrDisk)
	wants(t, "P6.2: Apply of a long row to a dead one", b.Apply(put("t", key(0), text(65536, 1))), api.ErrDead)
}

// inside is what a DB lies in: a disk's pager, and the root under which the rows' tree lies.
func inside(t *testing.T, d *disk.Disk) (*pager.Pager, int) {
	t.Helper()
	p, e := pager.Open(d, log)
	wants(t, "pager.Open", e, api.OK)
	for i := range 8 {
		if page, _ := p.Root(i); page != 0 {
			return p, i
		}
	}
	t.Fatal("no root leads to anything")
	return nil, 0
}

const wideRows = 200

// wide is a DB with rows in many pages, whose keys are numbers from 0 on.
func wide(t *testing.T) (*disk.Disk, rows) {
	t.Helper()
	b, d := fresh(t)
	var l []api.Change
	for i := range wideRows {
		l = append(l, put("t", key(i), text(100, i)))
	}
	l = append(l, put("t", key(120), text(4000, 7)))
	return d, rows{}.apply(t, b, l...)
}

// TestNoRows: P6.3: keys in the tree that are no row's: Check is ErrBroken, and the rows beside them are told.
func TestNoRows(t *testing.T) {
	for _, k := range []string{
		"\x00", "a", "\xff\xff", "\x01\x80\x00\x00\x00\x00\x00\x00\x00", "\x02t\x00\x01", "\x02t\x00\x01\x00", "\x02t\x00\x01\x01\x80", "\x02t\x00\x01\x02a",
		"\x02t\x00\x01\x03", "\x02t\x00\x01\xff", "\x02t\x00\x01\x01\x80\x00\x00\x00\x00\x00\x00\x05\x00", "\x02\x00\x01\x02a\x00\x01", bytesOf("t", key(1, 2, 3, 4, 5, 6, 7, 8, 9)),
	} {
		d, m := wide(t)
		p, root := inside(t, d)
		x, _ := btree.Open(p, root)
		wants(t, "btree.Put", x.Put([]byte(k), []byte("x")), api.OK)
		wants(t, "Commit", p.Commit(), api.OK)
		b := opened(t, d, log)
		if i, e := b.Check(); i != (api.TreeInfo{}) || e != api.ErrBroken {
			t.Errorf("P6.3: Check of a tree with %q: %v %v", k, i, e)
		}
		m.scan(t, b, "t")
		m.scan(t, b, "t", key(2)...)
		m = m.apply(t, b, put("t", key(7), "seven"), gone("t", key(8)))
		m.scan(t, b, "t")
		m.get(t, b, "t", key(7))
		p, _ = inside(t, d)
		x, _ = btree.Open(p, root)
		if _, e := x.Delete([]byte(k)); e != api.OK || p.Commit() != api.OK {
			t.Fatal(e)
		}
		m.is(t, opened(t, d, log))
	}
}

// spoilt is a DB of which a page is spoilt, and the keys that can't be got then, rising.
func spoilt(t *testing.T, d *disk.Disk, page int) (*tables.DB, []int) {
	t.Helper()
	p, _ := inside(t, d)
	wants(t, "pager.Put", p.Put(page, make([]byte, api.Page)), api.OK)
	wants(t, "Commit", p.Commit(), api.OK)
	b := opened(t, d, log)
	var lost []int
	for i := range wideRows {
		switch v, ok, e := b.Get("t", key(i)...); {
		case e == api.ErrBroken && v == nil && !ok:
			lost = append(lost, i)
		case e != api.OK || !ok:
			t.Errorf("P6.3: Get(%d) of a DB with a page spoilt: %v %v", i, ok, e)
		}
	}
	return b, lost
}

// TestBroken: P6.2, P6.3: each page spoilt: what meets it is ErrBroken, and nothing of its batch is made.
func TestBroken(t *testing.T) {
	d, m := wide(t)
	p, _ := inside(t, d)
	pages := slices.Collect(p.Taken())
	some := 0 // pages off which some of the keys hang, and not all
	for _, page := range pages {
		d, _ := wide(t)
		b, lost := spoilt(t, d, page)
		if i, e := b.Check(); i != (api.TreeInfo{}) || e != api.ErrBroken {
			t.Errorf("P6.3: Check with page %d spoilt: %v %v", page, i, e)
		}
		n := 0
		for r := range b.Scan("t") { // up to the first page that is none
			if i, there := m.find("t", r.Key); !there || i != n || m[i].bytes != string(r.Bytes) {
				t.Errorf("P6.3: Scan with page %d spoilt tells %v", page, r.Key)
			}
			n++
		}
		if len(lost) == 0 || n > lost[0] {
			t.Errorf("P6.3: with page %d spoilt Scan tells %d rows, and Get no %v", page, n, lost)
		}
		if v, ok, e := b.Get("", key(1)...); v != nil || ok || e != api.ErrArg {
			t.Errorf("P6.3: Get of what may not be: %v %v %v", v, ok, e)
		}
		if len(lost) < wideRows {
			some++
			m.meets(t, b, d, lost)
		}
	}
	if some < 15 {
		t.Errorf("%d pages of %d hold some of the keys", some, len(pages))
	}
}

// meets applies batches that meet a spoilt page, by which some keys are lost: ErrBroken is ahead of ErrFull, and behind ErrArg and ErrDead.
func (m rows) meets(t *testing.T, b *tables.DB, d *disk.Disk, lost []int) {
	t.Helper()
	whole, bad := 0, key(lost[0])
	if lost[0] == 0 {
		whole = wideRows - 1
	}
	for call, l := range map[string][]api.Change{
		"put":                          {put("t", bad, "x")},
		"deleted":                      {gone("t", bad)},
		"put behind others":            {put("t", key(whole), "x"), put("u", key(1), text(3000, 1)), put("t", bad, "x")},
		"put behind what has no room":  append(noRoom(), put("t", bad, "x")),
		"gone behind what has no room": append(noRoom(), gone("none", key(1)), gone("t", bad)),
	} {
		refused(t, "P6.2: Apply with a page spoilt of what is "+call, b, d, api.ErrBroken, l...)
		m.get(t, b, "t", key(whole))
		if _, ok, _ := b.Get("u", key(1)...); ok {
			t.Errorf("P6.2: a batch that is refused is half made")
		}
	}
	if !slices.Contains(lost, wideRows-1) { // v's rows would stand behind t's last ones
		refused(t, "P6.2: Apply of what has no room", b, d, api.ErrFull, append(noRoom(), put("t", key(whole), "x"))...)
	}
	refused(t, "P6.2: Apply of a wrong change", b, d, api.ErrArg, put("t", bad, "x"), put("t", nil, "x"))
	d.Feed(api.Fate{Kind: api.FateFail})
	wants(t, "P6.2: Apply", b.Apply(put("t", key(whole), text(100, 9))), api.ErrDisk)
	wants(t, "P6.2: Apply to a dead one", b.Apply(put("t", bad, "x")), api.ErrDead)
}

// noRoom are changes for which a DB has no pages.
func noRoom() []api.Change {
	var l []api.Change
	for i := range 13 {
		l = append(l, put("v", key(i), text(65536, i)))
	}
	return l
}
