package tables_test

import (
	"cmp"
	"maps"
	"math"
	"slices"
	"strconv"
	"strings"
	"testing"

	"lexicon/api"
	"lexicon/disk"
	"lexicon/tables"
)

const (
	log  = 400 // sectors of the log that most tests have
	size = 2000

	most = 4096 // changes of a batch
)

// row is a row of a table.
type row struct {
	table string
	key   []api.Part
	bytes string
}

// rows is what a DB has to have, by tables and then keys, rising.
type rows []row

// find tells where a row stands, or would, and whether it is there.
func (m rows) find(table string, key []api.Part) (int, bool) {
	return slices.BinarySearchFunc(m, row{table: table, key: key}, func(a, b row) int {
		return cmp.Or(strings.Compare(a.table, b.table), order(a.key, b.key))
	})
}

// with tells the rows behind changes.
func (m rows) with(l ...api.Change) rows {
	m = slices.Clone(m)
	for _, c := range l {
		i, there := m.find(c.Table, c.Key)
		if there {
			m = slices.Delete(m, i, i+1)
		}
		if !c.Gone {
			m = slices.Insert(m, i, row{c.Table, slices.Clone(c.Key), string(c.Bytes)})
		}
	}
	return m
}

func (m rows) same(o rows) bool {
	return slices.EqualFunc(m, o, func(a, b row) bool {
		return a.table == b.table && slices.Equal(a.key, b.key) && a.bytes == b.bytes
	})
}

// tables tells the names of tables that have rows.
func (m rows) tables() []string {
	names := map[string]int{}
	for _, r := range m {
		names[r.table]++
	}
	return slices.Sorted(maps.Keys(names))
}

// from tells a table's rows from a key on.
func (m rows) from(table string, from []api.Part) rows {
	var part rows
	for _, r := range m {
		if r.table == table && (len(from) == 0 || order(r.key, from) >= 0) {
			part = append(part, r)
		}
	}
	return part
}

// put is a change that puts a row, gone one that deletes a key.
func put(table string, key []api.Part, bytes string) api.Change {
	return api.Change{Table: table, Key: key, Bytes: []byte(bytes)}
}

func gone(table string, key []api.Part) api.Change {
	return api.Change{Table: table, Key: key, Gone: true}
}

// text is so many bytes, which another seed makes others.
func text(n, seed int) string {
	b := make([]byte, n)
	for i := range b {
		b[i] = byte(i*i/7 + i*seed + seed)
	}
	return string(b)
}

// wants holds what a call answered against what it has to.
func wants(t *testing.T, call string, got, want api.Errno) {
	t.Helper()
	if got != want {
		t.Errorf("%s: %v, not %v", call, got, want)
	}
}

// formatted is a disk with a DB without rows.
func formatted(t *testing.T, sectors, log int) *disk.Disk {
	t.Helper()
	d, e := disk.New(sectors)
	wants(t, "disk.New", e, api.OK)
	wants(t, "P6.1: Format", tables.Format(d, log), api.OK)
	return d
}

// opened is the DB that a disk has.
func opened(t *testing.T, d *disk.Disk, log int) *tables.DB {
	t.Helper()
	b, e := tables.Open(d, log)
	if b == nil || e != api.OK {
		t.Fatalf("P6.1: Open: %v %v", b, e)
	}
	return b
}

// fresh is a DB without rows, and its disk.
func fresh(t *testing.T) (*tables.DB, *disk.Disk) {
	t.Helper()
	d := formatted(t, size, log)
	return opened(t, d, log), d
}

// apply applies a batch that goes, and tells the rows behind it.
func (m rows) apply(t *testing.T, b *tables.DB, l ...api.Change) rows {
	t.Helper()
	wants(t, "P6.2: Apply of "+strconv.Itoa(len(l)), b.Apply(l...), api.OK)
	return m.with(l...)
}

// scan holds what is gone over against what has to be.
func (m rows) scan(t *testing.T, b *tables.DB, table string, from ...api.Part) {
	t.Helper()
	var got rows
	for r := range b.Scan(table, from...) {
		got = append(got, row{table, r.Key, string(r.Bytes)})
	}
	if want := m.from(table, from); !got.same(want) {
		t.Errorf("P6.3: Scan(%q, %v): %d rows, not %d, or others", table, from, len(got), len(want))
	}
}

// get holds a row's bytes against what they have to be.
func (m rows) get(t *testing.T, b *tables.DB, table string, key []api.Part) {
	t.Helper()
	want := row{}
	i, there := m.find(table, key)
	if there {
		want = m[i]
	}
	got, ok, e := b.Get(table, key...)
	if string(got) != want.bytes || ok != there || e != api.OK {
		t.Errorf("P6.3: Get(%q, %v): %d bytes %v %v, not %d %v, or others", table, key, len(got), ok, e, len(want.bytes), there)
	}
}

// near are keys near to one.
func near(key []api.Part) [][]api.Part {
	last := len(key) - 1
	other := func(p api.Part) []api.Part { return append(slices.Clone(key[:last]), p) }
	p := key[last]
	next := api.Part{Text: p.Text + "\x00"}
	if p.Is {
		next = api.Part{Number: p.Number + 1, Is: true}
	}
	all := [][]api.Part{other(next), other(api.Part{}), other(api.Part{Is: true})}
	if last > 0 {
		all = append(all, key[:last])
	}
	if last < 7 {
		all = append(all, append(slices.Clone(key), api.Part{}), append(slices.Clone(key), api.Part{Number: math.MinInt64, Is: true}))
	}
	return slices.DeleteFunc(all, func(k []api.Part) bool { return len(bytesOf("t", k)) > 250 })
}

// is holds all that a DB tells against what it has to have.
func (m rows) is(t *testing.T, b *tables.DB) {
	t.Helper()
	for _, table := range append(m.tables(), "t", "none", "\x00", "\xff") {
		m.scan(t, b, table)
	}
	for _, r := range m {
		m.get(t, b, r.table, r.key)
		for _, key := range near(r.key) {
			m.get(t, b, r.table, key)
		}
	}
	m.check(t, b)
}

// check holds what Check tells against what it has to.
func (m rows) check(t *testing.T, b *tables.DB) {
	t.Helper()
	if i, e := b.Check(); i.Keys != len(m) || (i.Depth == 0) != (len(m) == 0) || (i.Pages == 0) != (len(m) == 0) || e != api.OK {
		t.Errorf("P6.3: Check: %v %v of %d rows", i, e, len(m))
	}
}

// stepsOf tells how many steps a disk did.
func stepsOf(d *disk.Disk) int {
	n, _ := d.Steps()
	return n
}

// mixed are rows of some tables, of all kinds of keys, with short bytes and long ones.
func mixed(n int) []api.Change {
	var l []api.Change
	next := numbers(uint32(n))
	parts := edges()
	for i := range n {
		var key []api.Part
		for range 1 + next(8) {
			key = append(key, parts[next(len(parts))])
		}
		bytes := text([]int{0, next(40), next(600), next(5000)}[next(4)], i)
		l = append(l, put([]string{"t", "tt", "t\x00", "\x00", "\xff"}[next(5)], key, bytes))
	}
	return l
}

// numbers tells numbers below those that it is asked, in no plain order, the same ones each time.
func numbers(seed uint32) func(below int) int {
	x := seed*2654435761 + 12345
	return func(below int) int {
		x = x*1664525 + 1013904223
		return int(x>>8) % below
	}
}

// TestExamples: the chapter's.
func TestExamples(t *testing.T) {
	b, _ := fresh(t)
	m := rows{}.apply(t, b, put("t", key("a", 1), "x"), put("t", key("a", -1), "y"))
	var got []string
	for r := range b.Scan("t") {
		if len(r.Key) != 2 || r.Key[0] != (api.Part{Text: "a"}) || !r.Key[1].Is || r.Key[1].Text != "" {
			t.Errorf("P6.3: Scan tells the key %v", r.Key)
		}
		got = append(got, strconv.Itoa(int(r.Key[1].Number))+string(r.Bytes))
	}
	if !slices.Equal(got, []string{"-1y", "1x"}) {
		t.Errorf("P6.3: Scan(t): %v", got)
	}
	m = m.apply(t, b, gone("t", key("a", 1)), put("t", key("b"), "z"))
	if v, ok, e := b.Get("t", key("a", 1)...); v != nil || ok || e != api.OK {
		t.Errorf("P6.3: Get(t, a, 1): %q %v %v", v, ok, e)
	}
	n := 0
	for r := range b.Scan("t", key("a", 0)...) {
		if n++; !slices.Equal(r.Key, key("b")) || string(r.Bytes) != "z" {
			t.Errorf("P6.3: Scan(t, a, 0) tells %v %q", r.Key, r.Bytes)
		}
	}
	if n != 1 {
		t.Errorf("P6.3: Scan(t, a, 0) tells %d rows", n)
	}
	m.is(t, b)
	wants(t, "P6.2: Apply of a name of 33 bytes", b.Apply(put(strings.Repeat("n", 33), key("a"), "")), api.ErrArg)
}

// TestFormatOpen: P6.1: what is refused; what was applied is there again, and an old DB is not there behind Format.
func TestFormatOpen(t *testing.T) {
	for _, d := range []*disk.Disk{nil, new(disk.Disk)} {
		for _, log := range []int{4, 3, -1} {
			b, e := tables.Open(d, log)
			if wants(t, "P6.1: Format of no disk", tables.Format(d, log), api.ErrNil); b != nil || e != api.ErrNil {
				t.Errorf("P6.1: Open of no disk: %v %v", b, e)
			}
		}
	}
	d, _ := disk.New(20)
	for _, log := range []int{3, 0, -1, 17, 20, 21, math.MaxInt, math.MinInt} {
		b, e := tables.Open(d, log)
		if wants(t, "P6.1: Format", tables.Format(d, log), api.ErrArg); b != nil || e != api.ErrArg {
			t.Errorf("P6.1: Open(%d): %v %v", log, b, e)
		}
	}
	if b, e := tables.Open(d, 8); b != nil || e != api.ErrBroken || stepsOf(d) != 0 {
		t.Errorf("P6.1: Open of noughts: %v %v", b, e)
	}
	d = formatted(t, size, log)
	b := opened(t, d, log)
	rows{}.is(t, b)
	m := rows{}.apply(t, b, mixed(60)...)
	for range 3 { // without a crash, too
		d, _ = d.Crash()
		m.is(t, opened(t, d, log))
		b = opened(t, d, log)
		m = m.apply(t, b, put("t", key(len(m)), "more"), gone("t", m[0].key), gone(m[0].table, m[0].key))
		m.is(t, opened(t, d, log))
	}
	wants(t, "P6.1: Format", tables.Format(d, log), api.OK)
	d, _ = d.Crash()
	rows{}.is(t, opened(t, d, log))
	for step := range 4 {
		d := formatted(t, 40, 8)
		d.Feed(late(step, 1)...)
		b, e := tables.Open(d, 8)
		if (e == api.ErrDisk) != (b == nil) || e != api.OK && e != api.ErrDisk || step < 2 && e == api.OK {
			t.Errorf("P6.1: Open whose step %d fails: %v %v", step, b, e)
		}
	}
	d.Feed(api.Fate{Kind: api.FateFail})
	wants(t, "P6.1: Format whose step fails", tables.Format(d, log), api.ErrDisk)
}

// late fails a step, and lets those ahead of it go well.
func late(step, keep int) []api.Fate {
	return append(make([]api.Fate, step), api.Fate{Kind: api.FateFail, Keep: keep})
}

// TestNil: what there is not answers ErrNil, ahead of all else, and tells nothing.
func TestNil(t *testing.T) {
	for _, b := range []*tables.DB{nil, new(tables.DB)} {
		for call, l := range map[string][]api.Change{
			"no changes": nil, "a row": {put("t", key("a"), "x")}, "a wrong one": {put("", nil, "x")}, "a long one": {put("t", key("a"), text(65537, 1))},
		} {
			wants(t, "P6.2: Apply to none of "+call, b.Apply(l...), api.ErrNil)
		}
		for _, table := range []string{"t", "", "none"} {
			for _, parts := range [][]api.Part{nil, key("a"), key(1, 2, 3, 4, 5, 6, 7, 8, 9)} {
				if v, ok, e := b.Get(table, parts...); v != nil || ok || e != api.ErrNil {
					t.Errorf("P6.3: Get of none: %v %v %v", v, ok, e)
				}
				for r := range b.Scan(table, parts...) {
					t.Errorf("P6.3: Scan of none: %v", r)
				}
			}
		}
		if i, e := b.Check(); i != (api.TreeInfo{}) || e != api.ErrNil || b.Dead() {
			t.Errorf("P6.3: of none: %v %v %v", i, e, b.Dead())
		}
	}
}

// TestRows: P6.2, P6.3: rows of all kinds of keys, in tables whose names begin one another, put, put again, and deleted.
func TestRows(t *testing.T) {
	b, d := fresh(t)
	m := rows{}
	var l []api.Change
	for _, key := range lists()[:300] {
		for _, table := range []string{"t", "tt", "t\x00"} {
			l = append(l, put(table, key, table+strconv.Itoa(len(l))))
		}
	}
	m = m.apply(t, b, l...)
	m.is(t, b)
	for _, table := range []string{"t", "tt", "t\x00"} {
		for _, from := range lists()[:120] {
			m.scan(t, b, table, from...)
		}
	}
	for i := range l {
		l[i].Bytes = []byte(text(i%90, i))
		if i%3 == 0 {
			l[i] = gone(l[i].Table, l[i].Key)
		}
	}
	m = m.apply(t, b, l...)
	m.is(t, b)
	after, _ := d.Crash()
	m.is(t, opened(t, after, log))
	for i := range l {
		l[i] = gone(l[i].Table, l[i].Key)
	}
	m = m.apply(t, b, l...)
	m.is(t, b)
	if len(m) != 0 {
		t.Errorf("P6.2: %d rows are left", len(m))
	}
}

// TestNames: P6.2, P6.3: names of 0, 1, 32 and 33 bytes, and parts that may not be, in each call.
func TestNames(t *testing.T) {
	b, d := fresh(t)
	m := rows{}
	for i, table := range names() {
		m = m.apply(t, b, put(table, key("a"), strconv.Itoa(i)), put(table, key(1, 2, 3, 4, 5, 6, 7, 8), ""), put(table, key(i, strings.Repeat("k", 100)), text(600, i)))
	}
	m.is(t, b)
	steps := stepsOf(d)
	refused := func(call, table string, parts []api.Part, scan bool) {
		for _, c := range []api.Change{put(table, parts, "x"), gone(table, parts), put(table, parts, text(65537, 1)), {Table: table, Key: parts, Bytes: []byte("x"), Gone: true}} {
			wants(t, "P6.2: Apply of "+call, b.Apply(c), api.ErrArg)
			wants(t, "P6.2: Apply of a row, and of "+call, b.Apply(put("t", key("z"), "z"), c), api.ErrArg)
		}
		if v, ok, e := b.Get(table, parts...); v != nil || ok || e != api.ErrArg {
			t.Errorf("P6.3: Get of %s: %v %v %v", call, v, ok, e)
		}
		for r := range b.Scan(table, parts...) {
			if scan {
				t.Errorf("P6.3: Scan of %s: %v", call, r)
			}
		}
	}
	for _, table := range noNames() {
		refused(strconv.Itoa(len(table))+" bytes of a name", table, key("a"), true)
		refused("no parts", table, nil, true)
	}
	for _, table := range names() {
		refused("no parts", table, nil, false)
		refused("no parts", table, []api.Part{}, false)
		for call, parts := range bad() {
			refused(call, table, parts, true)
		}
		m.scan(t, b, table)
	}
	m.is(t, b)
	if stepsOf(d) != steps {
		t.Error("P6.2: what is refused takes steps")
	}
}

// TestBounds: P6.2: keys of 300 and 301 bytes, values of 65536 and 65537, bytes of a Gone.
func TestBounds(t *testing.T) {
	b, _ := fresh(t)
	long := key("k", strings.Repeat("a", 300-len(bytesOf("t", key("k", "")))))
	longer := key("k", long[1].Text+"a")
	m := rows{}.apply(t, b, put("t", long, text(65536, 1)), put("t", key(1), text(65535, 2)), put("t", key(2), ""))
	m.is(t, b)
	for call, c := range map[string]struct {
		change api.Change
		want   api.Errno
	}{
		"301 bytes of a key":             {put("t", longer, "x"), api.ErrArg},
		"301 bytes of a key that goes":   {gone("t", longer), api.ErrArg},
		"65537 bytes":                    {put("t", key(1), text(65537, 1)), api.ErrLong},
		"2^20 bytes of another row":      {put("t", key("new"), text(1<<20, 1)), api.ErrLong},
		"a byte of a Gone":               {api.Change{Table: "t", Key: key(1), Bytes: []byte{0}, Gone: true}, api.ErrArg},
		"65537 bytes of a Gone":          {api.Change{Table: "t", Key: key(1), Bytes: make([]byte, 65537), Gone: true}, api.ErrArg},
		"a byte of a Gone, not there":    {api.Change{Table: "t", Key: key("none"), Bytes: []byte{0}, Gone: true}, api.ErrArg},
		"65537 bytes of what may not be": {put("t", longer, text(65537, 1)), api.ErrArg},
	} {
		wants(t, "P6.2: Apply of "+call, b.Apply(c.change), c.want)
		wants(t, "P6.2: Apply of a row, and of "+call, b.Apply(put("t", key(3), "3"), c.change), c.want)
		wants(t, "P6.2: Apply of "+call+", and of a row", b.Apply(c.change, gone("t", key(1))), c.want)
		m.is(t, b)
	}
	m = m.apply(t, b, api.Change{Table: "t", Key: key(2), Bytes: []byte{}, Gone: true}) // as none
	m = m.apply(t, b, put("t", key(1), text(65536, 7)), gone("t", long))
	m.is(t, b)
}

// TestFirstWrong: P6.2: of the changes the first one that may not be counts, then how many there are.
func TestFirstWrong(t *testing.T) {
	b, d := fresh(t)
	good, wrong, long := put("t", key("a"), "x"), put("t", nil, "x"), put("t", key("a"), text(65537, 1))
	many := slices.Repeat([]api.Change{good}, most+1)
	at := func(i int, c api.Change) []api.Change {
		l := slices.Clone(many)
		l[i] = c
		return l
	}
	for i, c := range []struct {
		l    []api.Change
		want api.Errno
	}{
		{[]api.Change{wrong, long}, api.ErrArg},
		{[]api.Change{long, wrong}, api.ErrLong},
		{[]api.Change{good, long, good, wrong}, api.ErrLong},
		{[]api.Change{good, wrong, good, long}, api.ErrArg},
		{many, api.ErrLong},
		{append(slices.Clone(many), many...), api.ErrLong},
		{at(0, wrong), api.ErrArg},
		{at(most-1, wrong), api.ErrArg},
		{at(most, wrong), api.ErrArg},
		{at(most, long), api.ErrLong},
		{append(at(0, long), wrong), api.ErrLong},
	} {
		wants(t, "P6.2: Apply "+strconv.Itoa(i), b.Apply(c.l...), c.want)
		rows{}.is(t, b)
	}
	d.Feed(api.Fate{Kind: api.FateFail})
	wants(t, "P6.2: Apply", b.Apply(good), api.ErrDisk)
	for want, c := range map[api.Errno]api.Change{api.ErrArg: wrong, api.ErrLong: long, api.ErrDead: good} {
		wants(t, "P6.2: Apply to a dead one", b.Apply(c), want)
	}
	wants(t, "P6.2: Apply of 4097 to a dead one", b.Apply(many...), api.ErrLong)
}

// TestMany: P6.2: 4096 changes go, of as many rows and of one; 4097 do not.
func TestMany(t *testing.T) {
	b, d := fresh(t)
	var l []api.Change
	for i := range most + 1 {
		l = append(l, put("t", key(i*2657%(most+1)-2000), strconv.Itoa(i)))
	}
	m := rows{}
	wants(t, "P6.2: Apply of 4097", b.Apply(l...), api.ErrLong)
	m.is(t, b)
	m = m.apply(t, b, l[:most]...)
	m.scan(t, b, "t")
	m.check(t, b)
	for i := range l {
		l[i] = gone("t", l[i].Key)
	}
	wants(t, "P6.2: Apply of 4097", b.Apply(l...), api.ErrLong)
	m.scan(t, b, "t")
	m = m.apply(t, b, l[1:]...)
	m.is(t, b)
	if len(m) != 1 {
		t.Errorf("%d rows", len(m))
	}
	l = l[:0]
	for i := range most {
		l = append(l, put("t", key("one"), text(i, i)))
		if i%5 == 0 {
			l[i] = gone("t", key("one"))
		}
	}
	m = m.apply(t, b, l...)
	m.is(t, b)
	after, _ := d.Crash()
	m.is(t, opened(t, after, log))
}

// TestInOrder: P6.2: one row is put and deleted several times in one batch; what is not there is deleted; changes of nothing.
func TestInOrder(t *testing.T) {
	b, d := fresh(t)
	a, c := key("a"), key("c", 1)
	m := rows{}
	for i, l := range [][]api.Change{
		{put("t", a, "1"), put("t", a, "2")},
		{gone("t", a), put("t", a, "3")},
		{put("t", a, "4"), gone("t", a)},
		{gone("t", a), gone("t", a)},
		{put("t", a, "5"), gone("t", a), put("t", a, text(3000, 5)), put("t", c, "5"), gone("t", c)},
		{gone("t", a), put("t", a, text(3000, 6)), gone("t", a), put("t", a, ""), put("t", c, text(9000, 6))},
		{gone("t", c), gone("t", key("none")), gone("none", a), gone("t", c), put("t", c, "7"), gone("u", c)},
		{gone("t", key("none"))},
		nil,
		{},
	} {
		m = m.apply(t, b, l...)
		m.is(t, b)
		after, _ := d.Crash()
		m.is(t, opened(t, after, log))
		if i == 3 && len(m) != 0 || i == 6 && len(m) != 2 {
			t.Errorf("P6.2: %d rows behind batch %d", len(m), i)
		}
	}
	steps := stepsOf(d)
	m = m.apply(t, b)
	m = m.apply(t, b, gone("t", key("none")), gone("none", a))
	if d.Feed(api.Fate{Kind: api.FateFail}); stepsOf(d) != steps {
		t.Errorf("P6.2: what changes nothing takes %d steps", stepsOf(d)-steps)
	}
	m = m.apply(t, b)
	m = m.apply(t, b, gone("t", key("none")))
	m.is(t, b)
}

// TestScan: P6.3: from where; a table whose name begins another one's has none of its rows.
func TestScan(t *testing.T) {
	b, _ := fresh(t)
	m := rows{}
	for _, table := range names() {
		m.scan(t, b, table)
		m.scan(t, b, table, key("a")...)
	}
	for n := range 8 {
		m = m.apply(t, b, mixed(40+n)...)
	}
	for _, r := range slices.Clone(m) {
		m = m.apply(t, b, put(r.table+"\x01", r.key[:1], "of another table"), put(r.table+"\xff", r.key[:1], "and one more"))
	}
	froms := append([][]api.Part{nil, {}, key("", "", "", "", "", "", "", ""), key(math.MaxInt64), key(strings.Repeat("\xff", 250))}, lists()[:150]...)
	for _, r := range m[:40] {
		froms = append(froms, near(r.key)...)
		froms = append(froms, r.key)
	}
	for i, from := range froms {
		for j, table := range m.tables() {
			if (i+j)%3 == 0 || len(from) == 0 {
				m.scan(t, b, table, from...)
			}
		}
	}
	m.check(t, b)
}

// TestScanKeeps: P6.3: it is as the rows were when it was called, is left at any time, and gone through as often as one likes; who is told a row may change it.
func TestScanKeeps(t *testing.T) {
	b, d := fresh(t)
	m := rows{}
	for i := range 40 {
		m = m.apply(t, b, put("t", key("k", i), text(i*40, i)), put("u", key(i), "u"))
	}
	from := key("k", 5)
	all := b.Scan("t", from...)
	from[1].Number = 39
	for i := range 40 {
		c := put("t", key("k", i), "another")
		if i%2 == 0 {
			c = gone("t", key("k", i))
		}
		wants(t, "P6.2: Apply", b.Apply(c, put("t", key("k", i, "new"), "")), api.OK)
	}
	want := m.from("t", key("k", 5))
	for left := range 37 {
		if left == 18 {
			d.Feed(api.Fate{Kind: api.FateFail})
			wants(t, "P6.2: Apply", b.Apply(put("t", key("k", 6), "")), api.ErrDisk)
		}
		n := 0
		for r := range all {
			if !slices.Equal(r.Key, want[n].key) || string(r.Bytes) != want[n].bytes {
				t.Fatalf("P6.3: %d of Scan: %v, not %v", n, r.Key, want[n].key)
			}
			clear(r.Key)
			clear(r.Bytes)
			_, _ = append(r.Key, api.Part{}), append(r.Bytes, 'x')
			if n == left {
				break
			}
			n++
		}
		if n != min(left, 35) {
			t.Errorf("P6.3: Scan tells %d, and is left at %d", n, left)
		}
	}
	for range all { // a call within, and one within the other
		for range all {
			wants(t, "P6.2: Apply to a dead one", b.Apply(), api.ErrDead)
			break
		}
	}
}

// TestScanChanges: P6.3: rows may be changed while they are gone over.
func TestScanChanges(t *testing.T) {
	b, _ := fresh(t)
	m := rows{}.apply(t, b, mixed(80)...)
	for _, table := range m.tables() {
		n := 0
		for r := range b.Scan(table) {
			m = m.apply(t, b, gone(table, r.Key), put("v", append(key(n), r.Key[:1]...), string(r.Bytes)))
			n++
		}
	}
	m.is(t, b)
	if !slices.Equal(m.tables(), []string{"v"}) {
		t.Errorf("P6.3: %q are left", m.tables())
	}
}

// TestMemory: what is handed in is not changed and not kept, spare room behind it included; answers are new memory.
func TestMemory(t *testing.T) {
	b, d := fresh(t)
	m := rows{}
	for _, n := range []int{0, 1, 200, 600, 3000} {
		parts, bytes := append(key("a", n), key("spare")...), []byte(text(n, n)+"spare")
		l := []api.Change{{Table: "t", Key: parts[:2], Bytes: bytes[:n]}, gone("t", parts[:1]), put("u", parts[:1], "u")}
		m = m.with(l...)
		wants(t, "P6.2: Apply", b.Apply(l[:2]...), api.OK)
		wants(t, "P6.2: Apply", b.Apply(l[2:]...), api.OK)
		b.Get("t", parts[:2]...)
		for range b.Scan("t", parts[:2]...) {
		}
		if !slices.Equal(parts, key("a", n, "spare")) || string(bytes) != text(n, n)+"spare" || l[2].Table != "u" || !l[1].Gone {
			t.Errorf("P6.2: what is handed in is changed")
		}
		clear(parts)
		clear(bytes)
		clear(l)
	}
	m.is(t, b)
	for _, r := range m {
		v, _, _ := b.Get(r.table, r.key...)
		clear(v)
		_ = append(v, 'x')
	}
	m.is(t, b)
	after, _ := d.Crash()
	m.is(t, opened(t, after, log))
}

// TestSame: what is applied hangs on nothing else: the same calls leave the same bytes.
func TestSame(t *testing.T) {
	var disks [2]*disk.Disk
	for i := range disks {
		b, d := fresh(t)
		for n := range 10 {
			l := mixed(20 + n)
			for j := range l {
				if j%4 == n%4 {
					l[j] = gone(l[j].Table, l[j].Key)
				}
			}
			wants(t, "P6.2: Apply", b.Apply(l...), api.OK)
		}
		disks[i] = d
	}
	if !disks[0].Same(disks[1]) {
		t.Error("P6.2: the same calls lay another thing")
	}
}
