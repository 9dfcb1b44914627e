package pager_test

import (
	"slices"
	"strconv"
	"testing"

	"lexicon/api"
	"lexicon/disk"
	"lexicon/pager"
)

// user is a pager in use, and what the chapter's words say of it.
type user struct {
	d        *disk.Disk
	log      int
	p        *pager.Pager
	now, was content   // with the transaction's changes, and ahead of it
	may      []content // what it may have, one or another one, if it is opened now
}

// used is a pager without pages that is in use.
func used(t *testing.T, sectors, log int) *user {
	t.Helper()
	u := &user{d: formatted(t, sectors, log), log: log}
	u.is(of(nil))
	u.p = opened(t, u.d, log)
	return u
}

// is tells that the pager has this, whatever befalls it.
func (u *user) is(c content) { u.now, u.was, u.may = c.clone(), c.clone(), []content{c.clone()} }

// alloc takes a page, and tells its number; 0: there is none.
func (u *user) alloc(t *testing.T) int {
	t.Helper()
	_, room, _, dead := u.p.State()
	page, e := u.p.Alloc()
	_, there := u.now.pages[page]
	switch {
	case dead && (page != 0 || e != api.ErrDead):
		t.Errorf("P4.5: Alloc of a dead one: %d %v", page, e)
	case dead:
	case len(u.now.pages) == room && (page != 0 || e != api.ErrFull):
		t.Errorf("P4.2: Alloc of one more: %d %v", page, e)
	case len(u.now.pages) < room && (there || page < 1 || page > room || e != api.OK):
		t.Errorf("P4.6: Alloc: %d %v, taken %v", page, e, there)
	case page > 0:
		u.now.pages[page] = string(full(0))
	}
	return page
}

func (u *user) put(t *testing.T, page int, by byte) {
	t.Helper()
	if u.can(t, "P4.2: Put", page, u.p.Put(page, full(by))) {
		u.now.pages[page] = string(full(by))
	}
}

func (u *user) free(t *testing.T, page int) {
	t.Helper()
	if u.can(t, "P4.2: Free", page, u.p.Free(page)) {
		delete(u.now.pages, page)
	}
}

// can holds what a call of a page answered against what it has to, and tells whether it went.
func (u *user) can(t *testing.T, call string, page int, got api.Errno) bool {
	t.Helper()
	want := api.OK
	if _, ok := u.now.pages[page]; !ok {
		want = api.ErrRange
	}
	if _, _, _, dead := u.p.State(); dead {
		want = api.ErrDead
	}
	wants(t, call, got, want)
	return got == api.OK
}

func (u *user) root(t *testing.T, i, v int) {
	t.Helper()
	want := api.OK
	if _, _, _, dead := u.p.State(); dead {
		want = api.ErrDead
	} else {
		u.now.roots[i] = v
	}
	wants(t, "P4.2: SetRoot", u.p.SetRoot(i, v), want)
}

// commit ends the transaction.
func (u *user) commit(t *testing.T) api.Errno {
	t.Helper()
	_, _, _, was := u.p.State()
	e := u.p.Commit()
	_, _, open, dead := u.p.State()
	if open || dead != (was || e == api.ErrDisk) || was != (e == api.ErrDead) {
		t.Errorf("P4.5: Commit %v, open %v, dead %v, and was %v", e, open, dead, was)
	}
	switch e {
	case api.OK:
		u.is(u.now)
	case api.ErrFull:
		u.now = u.was.clone()
	case api.ErrDisk:
		u.may = append(u.may, u.now.clone())
		u.now = u.any(t, "P4.5: Commit of which a step fails", contentOf(t, u.p))
		u.was = u.now.clone()
	case api.ErrDead:
	default:
		t.Errorf("P4.3: Commit: %v", e)
	}
	return e
}

func (u *user) rollback(t *testing.T) {
	t.Helper()
	wants(t, "P4.3: Rollback", u.p.Rollback(), api.OK)
	u.now = u.was.clone()
}

// any holds what is told against what may be.
func (u *user) any(t *testing.T, call string, got content) content {
	t.Helper()
	if !slices.ContainsFunc(u.may, got.same) {
		t.Errorf("%s: %v, none of %v", call, got, u.may)
	}
	return got
}

// open opens the pager, and tells whether it did: a step may fail.
func (u *user) open(t *testing.T) bool {
	t.Helper()
	_, ahead := u.d.Steps()
	p, e := pager.Open(u.d, u.log)
	_, left := u.d.Steps()
	if p == nil && e == api.ErrDisk && left < ahead {
		return false
	}
	if p == nil || e != api.OK {
		t.Fatalf("P4.6: Open: %v", e)
	}
	u.p = p
	u.is(u.any(t, "P4.6: Open", contentOf(t, p)))
	return true
}

// again opens another disk again, with what may be on this one, and uses it.
func (u *user) again(t *testing.T, d *disk.Disk) {
	t.Helper()
	o := &user{d: d, log: u.log, may: u.may}
	if !o.open(t) {
		t.Fatal("P4.6: Open fails without a fault")
	}
	if page := o.alloc(t); page > 0 {
		o.put(t, page, '!')
	}
	o.root(t, 7, 7)
	wants(t, "P4.6: Commit behind a crash", o.commit(t), api.OK)
	after, _ := o.d.Crash()
	o.d = after
	o.open(t)
}

// work is a script: it goes on till a Commit fails, and tells whether one did.
func (u *user) work(t *testing.T) bool {
	t.Helper()
	for round := range 3 {
		a, b := u.alloc(t), u.alloc(t)
		u.put(t, a, 'a')
		u.put(t, b, 'b'+byte(round))
		u.root(t, 0, a)
		if u.commit(t) != api.OK {
			return true
		}
		u.put(t, a, 'x'+byte(round))
		if u.commit(t) != api.OK {
			return true
		}
		u.free(t, b)
		u.root(t, 1, b)
		if u.commit(t) != api.OK {
			return true
		}
		u.free(t, a)
		u.put(t, u.alloc(t), 'z')
		u.root(t, round, 100)
		if u.commit(t) != api.OK {
			return true
		}
	}
	return false
}

// torn are picks that matter: lost, whole, torn within the numbers of a head, a part, a page 0.
var torn = []int{0, 1, 2 + 1, 2 + 8, 2 + 12, 2 + 20, 2 + 100, 2 + 200, 2 + 501, 2 + 509, 2 + 511}

// crashes goes over crashes of a disk: all of which each piece has one pick, and some in which each has any.
func crashes(d *disk.Disk, next func(int) int, do func(after *disk.Disk)) {
	n := len(slices.Collect(d.Pieces()))
	try := func(pick func(i int) int) {
		picks := make([]int, n)
		for i := range picks {
			picks[i] = pick(i)
		}
		after, _ := d.Crash(picks...)
		do(after)
	}
	for _, p := range torn {
		try(func(int) int { return p })
	}
	for at := range n { // some first ones go, and the next one is torn; or all but one go
		p := torn[next(len(torn))]
		try(func(i int) int { return []int{1, p, 0}[min(max(i-at+1, 0), 2)] })
		try(func(i int) int { return []int{0, p, 1}[min(max(i-at+1, 0), 2)] })
		try(func(i int) int { return []int{1, p}[max(0, 1-(i-at)*(i-at))] })
	}
	for range 6 {
		try(func(int) int { return torn[next(len(torn))] })
	}
}

// numbers tells numbers below those that it is asked, in no plain order, the same ones each time.
func numbers(seed uint32) func(below int) int {
	x := seed*2654435761 + 12345
	return func(below int) int {
		x = x*1664525 + 1013904223
		return int(x>>8) % below
	}
}

// TestCrashes: P4.5, P4.6: each step of a script fails, whatever it leaves and whatever the crash behind it leaves; also of openings.
func TestCrashes(t *testing.T) {
	for _, log := range []int{7, 9, 14, 40} { // the log is emptied at each Commit, at some, at none
		t.Run(strconv.Itoa(log), func(t *testing.T) {
			t.Parallel()
			next := numbers(uint32(log))
			u := used(t, log+20, log)
			begin := stepsOf(u.d)
			u.work(t)
			for step := range stepsOf(u.d) - begin {
				for _, keep := range []int{0, 1, 2, 3, 5, 100} {
					if crashAt(t, log, step, keep, next); t.Failed() {
						t.Fatalf("log %d, step %d, keep %d", log, step, keep)
					}
				}
			}
		})
	}
}

// crashAt lets a step of the script fail, and crashes follow.
func crashAt(t *testing.T, log, step, keep int, next func(int) int) {
	t.Helper()
	u := used(t, log+20, log)
	u.d.Feed(late(step, keep)...)
	if !u.work(t) {
		t.Fatalf("P4.5: step %d fails, and no Commit does", step)
	}
	crashes(u.d, next, func(after *disk.Disk) { u.again(t, after) })
	u.opening(t, step%7, keep, next)
	u.again(t, u.d.Copy()) // and without a crash
}

// opening opens the pager again, of which a step fails, and lets that be followed by crashes.
func (u *user) opening(t *testing.T, step, keep int, next func(int) int) {
	t.Helper()
	o := &user{d: u.d.Copy(), log: u.log, may: u.may}
	if next(2) == 0 {
		o.d, _ = o.d.Crash(torn[next(3)], torn[next(3)], torn[next(3)])
	}
	o.d.Feed(late(step, keep)...)
	o.open(t)
	crashes(o.d, next, func(after *disk.Disk) { o.again(t, after) })
	if _, left := o.d.Steps(); left == 0 {
		o.again(t, o.d)
	}
}

// TestSame: P4.1 to P4.6: what is written hangs on the calls alone, not on the order in which a map is gone through.
func TestSame(t *testing.T) {
	for _, log := range []int{9, 30} {
		for step := range 40 {
			var first *disk.Disk
			for range 6 {
				u := used(t, log+40, log)
				u.d.Feed(late(step, 7)...)
				if !u.work(t) {
					for range 9 { // more pages than one transaction has room for in the short log
						u.put(t, u.alloc(t), 'm')
					}
					u.commit(t)
				}
				if first == nil {
					first = u.d
				}
				if !u.d.Same(first) {
					t.Fatalf("log %d, step %d: the same calls write another thing", log, step)
				}
			}
		}
	}
}

// TestDead: P4.5: each step of a Commit fails; the pager tells what it had, one way or the other, and takes no transaction any more.
func TestDead(t *testing.T) {
	for _, log := range []int{8, 12} {
		for commits := range 5 { // ahead of it: with 8 sectors the log is to be emptied behind some
			for step, failed := 0, true; failed; step++ {
				for keep := range 4 {
					u := used(t, size, log)
					for range commits {
						u.put(t, u.alloc(t), 'a')
						u.commit(t)
					}
					u.put(t, u.alloc(t), 'b')
					u.root(t, 3, 3)
					u.d.Feed(late(step, keep)...)
					if failed = u.commit(t) == api.ErrDisk; !failed {
						break
					}
					u.dead(t)
				}
				if !failed && step < 2 {
					t.Errorf("P4.3: Commit has %d steps", step)
				}
			}
		}
	}
}

// dead holds a dead pager against what it has to be.
func (u *user) dead(t *testing.T) {
	t.Helper()
	steps := stepsOf(u.d)
	for range 2 {
		state(t, "P4.5: State", u.p, len(u.now.pages), (u.d.Size()-u.log)/2-1, false, true)
		u.alloc(t)
		u.root(t, 3, 4)
		for _, page := range []int{1, 0, 99, -1} {
			wants(t, "P4.5: Put", u.p.Put(page, full('c')), api.ErrDead)
			wants(t, "P4.5: Put of 3 bytes", u.p.Put(page, []byte("abc")), api.ErrArg)
			wants(t, "P4.5: Free", u.p.Free(page), api.ErrDead)
		}
		wants(t, "P4.5: SetRoot of none", u.p.SetRoot(8, 0), api.ErrArg)
		wants(t, "P4.5: SetRoot below 0", u.p.SetRoot(0, -1), api.ErrArg)
		wants(t, "P4.5: Commit", u.commit(t), api.ErrDead)
		has(t, "P4.5: what a dead one tells", u.p, u.now)
		u.rollback(t)
		u.any(t, "P4.5: Rollback of a dead one", contentOf(t, u.p))
		has(t, "P4.5: Rollback of a dead one", u.p, u.now)
	}
	idle(t, "P4.5: a dead one", u.d, steps)
	u.again(t, u.d)
}

// TestAnyFaults: P4.1 to P4.6: calls, faults, openings and crashes in no plain order.
func TestAnyFaults(t *testing.T) {
	for seed := range uint32(300) {
		next := numbers(seed)
		log := []int{4, 5, 6, 8, 10, 16, 30}[next(7)]
		u := used(t, log+4+next(20), log)
		for range 120 {
			u.one(t, next)
			if t.Failed() {
				t.Fatalf("seed %d", seed)
			}
		}
	}
}

// one does one thing.
func (u *user) one(t *testing.T, next func(int) int) {
	t.Helper()
	_, room, _, dead := u.p.State()
	switch what := next(24); {
	case what < 6:
		if page := u.alloc(t); page > 0 && next(3) > 0 {
			u.put(t, page, byte(next(256)))
		}
	case what < 9:
		u.free(t, next(room+3)-1)
	case what < 13:
		u.put(t, next(room+3)-1, byte(next(256)))
	case what < 15:
		u.root(t, next(8), next(1<<20))
	case what < 19:
		u.commit(t)
	case what == 19:
		u.rollback(t)
	case what == 20:
		u.d.Feed(late(next(8), next(8))...)
	case what == 21:
		u.crash(t, next)
	case what == 22 || dead:
		u.reopen(t)
	}
	has(t, "P4.2: meanwhile", u.p, u.now)
}

// crash leaves any of what was not synced.
func (u *user) crash(t *testing.T, next func(int) int) {
	t.Helper()
	var picks []int
	for range u.d.Pieces() {
		picks = append(picks, []int{0, 1, 2 + next(512), torn[next(len(torn))]}[next(4)])
	}
	u.d, _ = u.d.Crash(picks...)
	if next(3) == 0 {
		u.d.Feed(late(next(5), next(5))...)
	}
	u.reopen(t)
}

// reopen opens the pager, and once more till it does.
func (u *user) reopen(t *testing.T) {
	t.Helper()
	for range 40 {
		if u.open(t) {
			return
		}
	}
	t.Fatal("P4.6: Open fails ever again, of " + strconv.Itoa(u.d.Size()))
}
