package wal_test

import (
	"bytes"
	"slices"
	"strings"
	"testing"

	"lexicon/api"
	"lexicon/disk"
	"lexicon/wal"
)

// plain is what the chapter's words say of a log: the batches that it may have, one way or another one, if it is opened now.
type plain struct{ may [][]string }

// done tells what may be behind a call that turns the batches into others.
func (p *plain) done(e api.Errno, now []string) {
	switch e {
	case api.OK:
		p.may = [][]string{now}
	case api.ErrDisk:
		p.may = append(p.may, now)
	}
}

// is holds batches against those that may be, which these are from now on.
func (p *plain) is(t *testing.T, call string, got [][]byte) {
	t.Helper()
	for _, m := range p.may {
		if same(got, m) {
			p.may = [][]string{m}
			return
		}
	}
	t.Fatalf("%s: %.300q, none of %.300q", call, short(got), p.may)
}

// a step of a script: a batch, a Reset, or an opening.
const (
	reset  = "reset"
	reopen = "open"
)

// play does steps on a disk that is all log till one fails.
func play(t *testing.T, d *disk.Disk, script []string) *plain {
	t.Helper()
	p := &plain{may: [][]string{nil}}
	var l *wal.Log
	for _, s := range script {
		var e api.Errno
		now := p.may[0]
		switch s {
		case reopen:
			l, e = wal.Open(d, 0, d.Size())
		case reset:
			e = l.Reset()
			p.done(e, nil)
		default:
			e = l.Append([]byte(s))
			p.done(e, append(slices.Clone(now), s))
		}
		if e == api.ErrDisk {
			return p
		}
		wants(t, "P3.5: "+s, e, api.OK)
	}
	return p
}

// some is each list of so many picks: lost, whole, torn at places that matter.
func some(n int, do func(picks []int)) {
	kinds := []int{0, 1, 2 + 1, 2 + 8, 2 + 100, 2 + 501, 2 + 509}
	picks := make([]int, n)
	var fill func(i int)
	fill = func(i int) {
		if i == n {
			do(picks)
			return
		}
		for _, k := range kinds {
			picks[i] = k
			fill(i + 1)
		}
	}
	fill(0)
}

// TestCrashes: P3.5: a crash at each step of a script, whatever the step left, whatever the crash leaves.
func TestCrashes(t *testing.T) {
	x500, x980 := strings.Repeat("x", 500), strings.Repeat("x", 980)
	for _, script := range [][]string{
		{reopen, "a", x500, "", "b", reopen, reset, x500, reopen, x980, "c"},
		{reopen, x980, reset, x500, x500, reset, reset, "a", "b", "c", reopen, "d", reset, ""},
		{reopen, reopen, "a", reopen, reopen, reopen, x980, reopen, reset, reopen, reopen, x980, "b"},
	} {
		d := formatted(t, 8)
		play(t, d, script)
		steps, _ := d.Steps()
		for step := range steps - 4 {
			for keep := range 4 {
				d := formatted(t, 8)
				d.Feed(late(step, keep)...)
				p := play(t, d, script)
				looked(t, d, p)
				some(len(slices.Collect(d.Pieces())), func(picks []int) {
					after, _ := d.Crash(picks...)
					again(t, after, &plain{may: p.may})
				})
				again(t, d, p) // and without a crash
			}
		}
	}
}

// looked holds what Look tells against what may be.
func looked(t *testing.T, d *disk.Disk, p *plain) {
	t.Helper()
	got, e := wal.Look(d, 0, d.Size())
	wants(t, "P3.5: Look", e, api.OK)
	(&plain{may: p.may}).is(t, "P3.5: Look", got)
}

// again opens a log again, and lets it be used.
func again(t *testing.T, d *disk.Disk, p *plain) {
	t.Helper()
	looked(t, d, p)
	l := opened(t, d)
	p.is(t, "P3.5: Open", collected(t, l.Batches()))
	if many, room, _, dead := l.State(); many != len(p.may[0]) || dead {
		t.Errorf("P3.5: State %d %d %v", many, room, dead)
	}
	if e := l.Append([]byte("new")); e != api.ErrFull {
		wants(t, "P3.5: Append behind a crash", e, api.OK)
		p.done(e, append(slices.Clone(p.may[0]), "new"))
	}
	after, _ := d.Crash()
	looked(t, after, p)
}

// numbers tells numbers below those that it is asked, in no plain order, the same ones each time.
func numbers(seed uint32) func(below int) int {
	x := seed*2654435761 + 12345
	return func(below int) int {
		x = x*1664525 + 1013904223
		return int(x>>8) % below
	}
}

// user is a log in use, whatever befalls its disk.
type user struct {
	d    *disk.Disk
	l    *wal.Log
	p    plain
	next func(int) int
}

// TestAnyFaults: P3.5: calls, faults, openings and crashes in no plain order; of logs whose runs are about to have another byte, too.
func TestAnyFaults(t *testing.T) {
	for seed := range uint32(400) {
		next := numbers(seed)
		n := 4 + next(5)
		run := []uint64{1, 1, 249, 255, 65531, 1<<24 - 7}[next(6)]
		heads := make([]byte, 2*sector)
		copy(heads[int(run%2)*sector:], headBytes(run, run, run))
		u := &user{d: laid(t, n, heads), p: plain{may: [][]string{nil}}, next: next}
		for range 80 {
			u.one(t)
			if t.Failed() {
				t.Fatalf("seed %d", seed)
			}
		}
	}
}

// one does one thing.
func (u *user) one(t *testing.T) {
	t.Helper()
	switch u.next(9) {
	case 0, 1:
		u.d.Feed(late(u.next(4), u.next(6))...)
	case 2:
		u.crash(t)
	case 3:
		u.reset(t)
	case 4:
		u.open(t)
	default:
		u.append(t)
	}
	looked(t, u.d, &u.p)
}

func (u *user) open(t *testing.T) {
	t.Helper()
	l, e := wal.Open(u.d, 0, u.d.Size())
	if u.l = l; e == api.ErrDisk && l == nil {
		return
	}
	wants(t, "P3.5: Open", e, api.OK)
	u.p.is(t, "P3.5: Open", collected(t, l.Batches()))
}

func (u *user) crash(t *testing.T) {
	t.Helper()
	var picks []int
	for range u.d.Pieces() {
		picks = append(picks, []int{0, 1, 2 + u.next(16), 2 + u.next(sector), 2 + 498 + u.next(14)}[u.next(5)])
	}
	u.d, _ = u.d.Crash(picks...)
	u.l = nil
	if u.next(3) == 0 {
		u.d.Feed(late(u.next(3), u.next(3))...)
	}
}

func (u *user) reset(t *testing.T) {
	t.Helper()
	e := u.l.Reset()
	if u.refused(t, e) {
		return
	}
	u.p.done(e, nil)
}

func (u *user) append(t *testing.T) {
	t.Helper()
	b := bytes.Repeat([]byte{'a' + byte(u.next(26))}, []int{0, 3, 484, 485, 600, 1000, 1500}[u.next(7)])
	_, room, _, _ := u.l.State()
	e := u.l.Append(b)
	full := room == 0 || len(b) > room
	switch {
	case u.refused(t, e):
	case full || e == api.ErrFull:
		if !full || e != api.ErrFull {
			t.Errorf("P3.3: Append of %d bytes, room %d: %v", len(b), room, e)
		}
	default:
		u.p.done(e, append(slices.Clone(u.p.may[0]), string(b)))
	}
}

// refused tells whether there is no log, or a dead one; such a one is opened again some time.
func (u *user) refused(t *testing.T, e api.Errno) bool {
	t.Helper()
	_, _, _, dead := u.l.State()
	if (u.l == nil) != (e == api.ErrNil) || e == api.ErrDead && !dead || e == api.OK && dead {
		t.Errorf("P3.4: %v, dead %v", e, dead)
	}
	if u.l == nil {
		u.open(t)
		return true
	}
	return e == api.ErrDead
}

// TestHeadLasts: P3.5: openings that fail leave a head at all times, whatever is torn of both.
func TestHeadLasts(t *testing.T) {
	for _, fates := range [][]api.Fate{
		late(1, 0), append(late(1, 0), late(1, 0)...), append(late(1, 0), late(2, 0)...), append(late(1, 0), late(2, 1)...),
		append(append(late(1, 0), late(1, 0)...), late(1, 0)...), append(append(late(1, 0), late(0, 0)...), late(2, 0)...),
		append(append(late(1, 0), late(2, 0)...), late(2, 0)...),
	} {
		for _, first := range []func(l *wal.Log) api.Errno{
			func(l *wal.Log) api.Errno { return l.Reset() },
			func(l *wal.Log) api.Errno { return l.Append([]byte("b")) },
		} {
			d := formatted(t, 6)
			l := opened(t, d)
			l.Append([]byte("a"))
			d.Feed(fates...)
			wants(t, "P3.4", first(l), api.ErrDisk)
			p := &plain{may: [][]string{{"a"}, {"a", "b"}, nil}}
			for range 5 {
				if _, left := d.Steps(); left > 0 {
					wal.Open(d, 0, 6)
				}
				some(len(slices.Collect(d.Pieces())), func(picks []int) {
					after, _ := d.Crash(picks...)
					again(t, after, &plain{may: p.may})
				})
			}
			again(t, d, p)
		}
	}
}

// TestSettled: P3.2, P3.4, P3.5: Open lets the head last that it reads, ahead of the next one, if it does not; the steps of that may fail.
func TestSettled(t *testing.T) {
	const from = 2
	for _, c := range []struct {
		first func(l *wal.Log) api.Errno
		more  int
	}{
		{func(l *wal.Log) api.Errno { return l.Append([]byte("b")) }, 0},
		{func(l *wal.Log) api.Errno { return l.Reset() }, 1},
	} {
		for step := range c.more + 3 {
			d := laid(t, from+6)
			wants(t, "P3.1: Format", wal.Format(d, from, 6), api.OK)
			l, _ := wal.Open(d, from, 6)
			d.Feed(late(1, 0)...)
			wants(t, "P3.4", c.first(l), api.ErrDisk)
			steps, _ := d.Steps()
			d.Feed(late(step, 0)...)
			l, e := wal.Open(d, from, 6)
			if step < c.more+2 {
				if l != nil || e != api.ErrDisk {
					t.Errorf("P3.4: Open of which step %d fails: %v %v", step, l, e)
				}
				stepped(t, "P3.4: Open", d, steps+step+1)
				continue
			}
			wants(t, "P3.2: Open", e, api.OK)
			synced(t, "P3.2: Open", d, steps+c.more+2)
		}
	}
}

// tornRuns are runs of which the first one's bytes are those of the second and the third one mixed, but for the last ones.
var tornRuns = [][3]uint64{
	{256, 511, 512}, {1, 255, 257}, {0x0150, 0x01FF, 0x0250}, {0xFFFF, 0x1FFF7, 0x1FFFF}, {0x10000, 0x1FFFF, 0x20000},
	{0x0150, 0x02FF, 0x0101FF}, {1 << 60, 1<<60 + 9, 1<<60 + 1<<56}, {5, 6, 7}, {5, 6, 1 << 50},
}

// TestTornTwice: P3.5: a sector that was torn, and is torn once more, is taken for none.
func TestTornTwice(t *testing.T) {
	twice := []int{100, 300, 400, 490}
	for i := range 17 {
		twice = append(twice, i, sector-1-i)
	}
	for _, runs := range tornRuns {
		for _, first := range []int{1, 2, 7, 8, 16, 100, 500, 501, 502, 507, 508} {
			for _, then := range twice {
				tornTwice(t, runs, first, then)
			}
		}
	}
}

// tornTwice tears the body's first sector, whose batch of the first run was not all there, by one of the second run, and then
// whatever step an Append of the third run is at.
func tornTwice(t *testing.T, runs [3]uint64, first, then int) {
	t.Helper()
	head := runs[2] - 1
	heads := make([]byte, 2*sector)
	copy(heads[int(head%2)*sector:], headBytes(head, 1, head))
	s := parts(runs[0], 0, bytes.Repeat([]byte("o"), 500))[:sector]
	new := part(runs[1], 0, long(300, 400, 'n')...)
	copy(s, new[:first])
	for step := 0; !bytes.Equal(s, new); step++ {
		d := laid(t, 5, heads, s)
		looks(t, "P3.5: torn", d)
		l := opened(t, d)
		state(t, "P3.5: torn", l, 0, 3*488-4, runs[2], false)
		d.Feed(late(step, 1)...)
		e := l.Append([]byte("z"))
		if _, left := d.Steps(); left > 0 {
			wants(t, "P3.3: Append", e, api.OK)
			return
		}
		wants(t, "P3.4: Append", e, api.ErrDisk)
		after, _ := d.Crash(2 + then)
		got, e := wal.Look(after, 0, 5)
		if e != api.OK || len(got) > 0 && !same(got, []string{"z"}) {
			t.Errorf("P3.5: runs %#x, torn at %d, then, step %d, at %d: %q (%v)", runs, first, step, then, short(got), e)
		}
		again(t, after, &plain{may: [][]string{nil, {"z"}}})
	}
}

// TestTornSteps: P3.3: what is there is written over in two steps, unless it would look whole if it were torn once more.
func TestTornSteps(t *testing.T) {
	for i, c := range []struct{ begin, end, base, run uint64 }{
		{300, 7, 5, 301}, {7, 300, 5, 301}, {7, 7, 5, 301}, {256, 256, 5, 512}, {511, 511, 5, 512}, // the whole ones have not all of their batch
		{511, 256, 5, 513}, {511, 256, 5, 767}, {511, 512, 5, 767}, {0x0108, 0x0100, 5, 0x0210},
		{511, 256, 257, 512}, // its end is below the base
	} {
		heads := make([]byte, 2*sector)
		copy(heads[int((c.run-1)%2)*sector:], headBytes(c.run-1, c.base, c.run-1))
		d := laid(t, 5, heads, part(c.begin, 0, long(600, 400, 'n')...)[:500], part(c.end, 0)[500:], part(5, 1), part(5, 2))
		l := opened(t, d)
		state(t, "P3.2: Open", l, 0, 3*488-4, c.run, false)
		steps, _ := d.Steps()
		wants(t, "P3.3: Append over what is torn", l.Append([]byte("a")), api.OK)
		if synced(t, "P3.3: Append over what is torn", d, steps+2); t.Failed() {
			t.Fatal(i)
		}
		looks(t, "P3.3: Append over what is torn", d, "a")
	}
}

// TestTornBack: P3.5: the bytes of a torn sector that begins with a lower run than it ends with do not count, either, whatever is torn of what takes its end's run.
func TestTornBack(t *testing.T) {
	const from = 3 // it is not the disk's first sectors that are asked
	s := append(part(0x0100, 0, long(1, 1, 'o')...)[:500], part(0x01FF, 0)[500:]...)
	for step := range 4 {
		for then := range sector {
			d := laid(t, from+5, full(9, from), headBytes(0x02FE, 5, 0x02FE), make([]byte, sector), s)
			l, e := wal.Open(d, from, 5)
			wants(t, "P3.2: Open", e, api.OK)
			d.Feed(late(step, 1)...)
			wants(t, "P3.4: Append", l.Append([]byte("z")), api.ErrDisk)
			after, _ := d.Crash(2 + then)
			got, e := wal.Look(after, from, 5)
			if e != api.OK || len(got) > 0 && !same(got, []string{"z"}) {
				t.Fatalf("P3.5: step %d, torn at %d: %q (%v)", step, then, short(got), e)
			}
			before, _ := after.Read(0, from)
			if !bytes.Equal(before, full(9, from)) {
				t.Fatalf("P3.3: Append writes ahead of the log")
			}
		}
	}
}

// TestLikeBatches: P3.5: no bytes that somebody appended, and that look like a log's, are taken for it.
func TestLikeBatches(t *testing.T) {
	like := part(0, 0, 1, 0, 0, 0, 'x')
	for run := uint64(1); run < 8; run++ {
		like = slices.Concat(like, headBytes(run, run, run), part(run, uint32(run), 1, 0, 0, 0, 'x'), long(1, 1, 'x'))
	}
	for shift := range 488 { // the second sector of the batch has any of these bytes at its begin
		b := string(append(make([]byte, shift), like...))
		d := formatted(t, 20)
		l := opened(t, d)
		wants(t, "P3.3: Append", l.Append([]byte(b)), api.OK)
		looks(t, "P3.5", d, b)
		wants(t, "P3.3: Append", l.Append([]byte("a")), api.OK)
		l = opened(t, d)
		has(t, "P3.5: Open", l, b, "a")
		wants(t, "P3.3: Reset", l.Reset(), api.OK)
		looks(t, "P3.5: Reset", d)
		wants(t, "P3.3: Append", l.Append([]byte("c")), api.OK) // what comes behind is of the old batch
		looks(t, "P3.5: Append over another one", d, "c")
		has(t, "P3.5: Append over another one", opened(t, d), "c")
	}
}

// TestOldSectors: P3.5: of a batch that was not all there, what is left is never taken for one, whatever comes ahead of it.
func TestOldSectors(t *testing.T) {
	const n = 485 // its second sector begins as a batch of no bytes would, or of one, or of two sectors
	for _, length := range []byte{0, 1, 100, 255} {
		b := append(make([]byte, 484), long(uint32(length), n, length)...)
		d := formatted(t, 8)
		l := opened(t, d)
		l.Append([]byte("a"))
		d.Feed(late(1, 0)...)
		wants(t, "P3.4: Append", l.Append(b), api.ErrDisk)
		d, _ = d.Crash(0, 1, 1) // the first sector is lost
		l = opened(t, d)
		has(t, "P3.5: Open", l, "a")
		wants(t, "P3.3: Append", l.Append([]byte("b")), api.OK)
		looks(t, "P3.5: Append", d, "a", "b")
		has(t, "P3.5: Append", opened(t, d), "a", "b")
	}
}
