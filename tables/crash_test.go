package tables_test

import (
	"slices"
	"strconv"
	"testing"

	"lexicon/api"
	"lexicon/disk"
	"lexicon/tables"
)

// user is a DB in use, and what the chapter's words say of it.
type user struct {
	d   *disk.Disk
	log int
	b   *tables.DB
	now rows
	may []rows // what it may have, one or another one, if it is opened now
}

// used is a DB without rows that is in use.
func used(t *testing.T, sectors, log int) *user {
	t.Helper()
	d := formatted(t, sectors, log)
	return &user{d: d, log: log, b: opened(t, d, log), may: []rows{nil}}
}

// is tells that the DB has these rows, whatever befalls it.
func (u *user) is(m rows) { u.now, u.may = m, []rows{m} }

// told are all rows that a DB tells, of the tables that may have some.
func told(t *testing.T, b *tables.DB, tables ...string) rows {
	t.Helper()
	var m rows
	for _, table := range tables {
		for r := range b.Scan(table) {
			m = append(m, row{table, r.Key, string(r.Bytes)})
		}
	}
	m.check(t, b)
	return m
}

// any holds what a DB has against what may be.
func (u *user) any(t *testing.T, call string, b *tables.DB) rows {
	t.Helper()
	m := told(t, b, "t", "tt", "u")
	if !slices.ContainsFunc(u.may, m.same) {
		t.Errorf("%s: %d rows, or others than may be, one of %d", call, len(m), len(u.may))
	}
	return m
}

// apply applies a batch, to which steps may fail, and holds what is told then against what may be.
func (u *user) apply(t *testing.T, l ...api.Change) api.Errno {
	t.Helper()
	was := u.b.Dead()
	e := u.b.Apply(l...)
	if u.b.Dead() != (was || e == api.ErrDisk) || was != (e == api.ErrDead) {
		t.Errorf("P6.2: Apply: %v, dead %v, and was %v", e, u.b.Dead(), was)
	}
	switch e {
	case api.OK:
		u.is(u.now.with(l...))
	case api.ErrDisk:
		u.may = append(u.may, u.now.with(l...))
		u.now = u.any(t, "P6.2: Apply of which a step fails", u.b)
	case api.ErrFull, api.ErrDead:
	default:
		t.Errorf("P6.2: Apply: %v", e)
	}
	return e
}

// open opens the DB, and tells whether it did: a step may fail.
func (u *user) open(t *testing.T) bool {
	t.Helper()
	_, ahead := u.d.Steps()
	b, e := tables.Open(u.d, u.log)
	_, left := u.d.Steps()
	if b == nil && e == api.ErrDisk && left < ahead {
		return false
	}
	if b == nil || e != api.OK || b.Dead() {
		t.Fatalf("P6.5: Open: %v", e)
	}
	u.b = b
	u.is(u.any(t, "P6.5: Open", b))
	return true
}

// again opens another disk, with what may be on this one, and uses it.
func (u *user) again(t *testing.T, d *disk.Disk) {
	t.Helper()
	o := &user{d: d, log: u.log, may: u.may}
	if !o.open(t) {
		t.Fatal("P6.5: Open fails without a fault")
	}
	wants(t, "P6.5: Apply behind a crash", o.apply(t, put("u", key("again"), "x"), gone("t", key(0))), api.OK)
	o.d, _ = o.d.Crash()
	o.open(t)
}

// batch is one of a script's: rows are put, put again with more bytes and less, and deleted.
func batch(i int) []api.Change {
	l := []api.Change{
		put("t", key(i%5), text(i*211%1700, i)), gone("tt", key("k", i-2)), put("tt", key("k", i), text(i*7, i)), put("u", key("one"), strconv.Itoa(i)),
	}
	if i%2 == 1 {
		l = append(l, gone("t", key(i%3)), put("t", key(i%3, "more"), text(30, i)), gone("t", key(i%3, "more")), put("t", key(i, ""), ""))
	}
	return l
}

// work applies a script's batches till one fails, and tells whether one did.
func (u *user) work(t *testing.T, from, until int) bool {
	t.Helper()
	for i := from; i < until; i++ {
		switch e := u.apply(t, batch(i)...); e {
		case api.OK:
		case api.ErrDisk:
			return true
		default:
			t.Fatalf("P6.2: Apply of batch %d: %v", i, e)
		}
	}
	return false
}

// TestDead: P6.2, P6.3: each step of a batch fails: all of it is made, or none, and the DB tells rows, and applies nothing any more.
func TestDead(t *testing.T) {
	for _, log := range []int{30, 200} { // the log is to be emptied at some batches, at none
		for batches := range 8 { // ahead of it
			for step, failed := 0, true; failed; step++ {
				for _, keep := range []int{-1, 0, 1, 2, 5, 100} {
					u := used(t, log+60, log)
					u.work(t, 0, batches)
					u.d.Feed(late(step, keep)...)
					if failed = u.apply(t, batch(batches)...) == api.ErrDisk; !failed {
						break
					}
					u.dead(t)
				}
				if !failed && step < 2 {
					t.Errorf("P6.2: a batch has %d steps", step)
				}
			}
		}
	}
}

// dead holds a dead DB against what it has to be.
func (u *user) dead(t *testing.T) {
	t.Helper()
	steps, copied := stepsOf(u.d), u.d.Copy()
	for range 2 {
		for call, l := range map[string][]api.Change{
			"a row": {put("t", key("new"), "x")}, "a row that is there": {put("u", key("one"), "0")}, "a deletion": {gone("u", key("one"))},
			"a deletion of none": {gone("t", key("none"))}, "no changes": nil, "a long row": {put("t", key("new"), text(65536, 1))},
		} {
			wants(t, "P6.2: Apply to a dead one of "+call, u.apply(t, l...), api.ErrDead)
		}
		wants(t, "P6.2: Apply to a dead one of a wrong row", u.b.Apply(put("t", nil, "x")), api.ErrArg)
		wants(t, "P6.2: Apply to a dead one of a long row", u.b.Apply(put("t", key(1), text(65537, 1))), api.ErrLong)
		u.now.is(t, u.b)
		u.now.scan(t, u.b, "t", key(1)...)
		u.any(t, "P6.2: a dead one", u.b)
	}
	if stepsOf(u.d) != steps || !u.d.Same(copied) || !u.b.Dead() {
		t.Errorf("P6.2: a dead one writes, or lives again")
	}
	u.again(t, copied)
}

// crashes goes over crashes of a disk: with one pick for each piece, with one for one of them alone, and with any. Who calls it with each keep below keeps meets each pick there is.
func crashes(d *disk.Disk, keep, keeps int, next func(int) int, do func(after *disk.Disk)) {
	n := len(slices.Collect(d.Pieces()))
	try := func(pick func(i int) int) {
		picks := make([]int, n)
		for i := range picks {
			picks[i] = pick(i)
		}
		after, _ := d.Crash(picks...)
		do(after)
	}
	if n == 0 {
		try(nil)
		return
	}
	for p := keep; p < 2+api.Sector; p += keeps {
		at := next(n)
		try([]func(i int) int{
			func(int) int { return p },
			func(i int) int { return []int{1, p, 0}[min(max(i-at+1, 0), 2)] }, // the first ones go, the next one is torn
			func(i int) int { return []int{1, p}[max(0, 1-(i-at)*(i-at))] },   // all but one go
			func(i int) int { return []int{0, p, 1}[min(max(i-at+1, 0), 2)] }, // the last ones go
		}[next(4)])
	}
	for _, p := range torn {
		try(func(int) int { return p })
	}
	for range 5 {
		try(func(int) int { return torn[next(len(torn))] })
	}
}

// torn are picks that matter: lost, whole, torn at the begin, within numbers there and at the end.
var torn = []int{0, 1, 2, 2 + 1, 2 + 8, 2 + 12, 2 + 20, 2 + 100, 2 + 501, 2 + 509, 2 + 511}

// TestCrashes: P6.5: each step of a script fails, whatever it leaves, and whatever the crash behind it leaves; also of the opening behind it.
func TestCrashes(t *testing.T) {
	for _, log := range []int{24, 40, 150} { // the log is emptied at each batch, or nearly, at some, at none
		t.Run(strconv.Itoa(log), func(t *testing.T) {
			t.Parallel()
			const batches = 5
			keeps := []int{1, 2, 4, 100, 0}
			u := used(t, log+50, log)
			begin := stepsOf(u.d)
			u.work(t, 0, batches)
			next := numbers(uint32(log))
			for step := range stepsOf(u.d) - begin {
				for i, keep := range keeps {
					u := used(t, log+50, log)
					u.d.Feed(late(step, keep)...)
					if !u.work(t, 0, batches) {
						t.Fatalf("P6.2: step %d fails, and no batch does", step)
					}
					crashes(u.d, i, len(keeps), next, func(after *disk.Disk) { u.again(t, after) })
					u.opening(t, step%6, keep, next)
					if u.again(t, u.d.Copy()); t.Failed() { // and without a crash
						t.Fatalf("log %d, step %d, keep %d", log, step, keep)
					}
				}
			}
		})
	}
}

// opening opens the DB again, of which a step fails, and lets that be followed by crashes.
func (u *user) opening(t *testing.T, step, keep int, next func(int) int) {
	t.Helper()
	o := &user{d: u.d.Copy(), log: u.log, may: u.may}
	if next(2) == 0 {
		o.d, _ = o.d.Crash(torn[next(3)], torn[next(3)], torn[next(3)])
	}
	o.d.Feed(late(step, keep)...)
	o.open(t)
	for range 20 {
		var picks []int
		for range o.d.Pieces() {
			picks = append(picks, torn[next(len(torn))])
		}
		after, _ := o.d.Crash(picks...)
		o.again(t, after)
	}
}

// TestCrashBetween: P6.5: a crash behind each batch that was answered OK, and without a fault, leaves just it.
func TestCrashBetween(t *testing.T) {
	for _, log := range []int{24, 40, 150} {
		u := used(t, log+50, log)
		for i := range 60 {
			wants(t, "P6.2: Apply", u.apply(t, batch(i)...), api.OK)
			for _, p := range []int{0, 1, 2 + i} {
				after, _ := u.d.Crash(slices.Repeat([]int{p}, 200)...)
				u.again(t, after)
			}
			if i%7 == 6 {
				u.d, _ = u.d.Crash()
				u.open(t)
			}
		}
		u.now.is(t, u.b)
	}
}

// TestAnyFaults: P6.2 to P6.5: batches, faults, openings and crashes in no plain order; at times there is no room.
func TestAnyFaults(t *testing.T) {
	for seed := range uint32(80) {
		t.Run(strconv.Itoa(int(seed)), func(t *testing.T) {
			t.Parallel()
			next := numbers(seed)
			log := []int{8, 16, 30, 60, 150}[next(5)]
			u := used(t, log+6+next(100), log)
			for range 80 {
				if u.one(t, next); t.Failed() {
					return
				}
			}
			u.now.is(t, u.b)
		})
	}
}

// one does one thing.
func (u *user) one(t *testing.T, next func(int) int) {
	t.Helper()
	switch what := next(20); {
	case what < 14:
		var l []api.Change
		for range next(7) {
			c := put([]string{"t", "tt", "u"}[next(3)], key(next(9)-4, strconv.Itoa(next(4)))[:1+next(2)], text([]int{next(30), next(700), next(6000)}[next(3)], next(256)))
			if next(3) == 0 {
				c = gone(c.Table, c.Key)
			}
			l = append(l, c)
		}
		u.apply(t, l...)
	case what < 16:
		u.d.Feed(late(next(8), next(9))...)
	case what == 16:
		u.crash(t, next)
	case what == 17 || u.b.Dead():
		u.reopen(t)
	}
	u.any(t, "P6.3: meanwhile", u.b)
}

// crash leaves any of what was not synced.
func (u *user) crash(t *testing.T, next func(int) int) {
	t.Helper()
	var picks []int
	for range u.d.Pieces() {
		picks = append(picks, []int{0, 1, 2 + next(512), torn[next(len(torn))]}[next(4)])
	}
	u.d, _ = u.d.Crash(picks...)
	if next(3) == 0 {
		u.d.Feed(late(next(5), next(5))...)
	}
	u.reopen(t)
}

// reopen opens the DB, and once more till it does.
func (u *user) reopen(t *testing.T) {
	t.Helper()
	for range 40 {
		if u.open(t) {
			return
		}
	}
	t.Fatal("P6.5: Open fails ever again")
}
