package pager_test

import (
	"bytes"
	"encoding/binary"
	"maps"
	"math"
	"slices"
	"strconv"
	"testing"

	"lexicon/api"
	"lexicon/disk"
	"lexicon/pager"
	"lexicon/wal"
)

const (
	size = 40 // sectors of the disk that most tests have
	log  = 12 // sectors of its log
	last = 13 // its last page

	logged     = 4       // bytes that a page has in the log beside its own
	ownLogged  = 192 + 4 // bytes that the pager's own page has there
	freeLogged = 12 + 4  // and a free one
)

// fail is the fate of a step of which so many pieces go well all the same.
func fail(keep int) api.Fate { return api.Fate{Kind: api.FateFail, Keep: keep} }

// late is fates of which the last one is a failure, behind n good ones.
func late(n, keep int) []api.Fate { return append(make([]api.Fate, n), fail(keep)) }

// full is a page of one byte.
func full(by byte) []byte { return bytes.Repeat([]byte{by}, api.Page) }

// padded is a page that begins with these bytes.
func padded(b ...[]byte) []byte {
	return append(slices.Concat(b...), make([]byte, api.Page)...)[:api.Page]
}

// ownBytes is the pager's own page: how many pages were ever taken, how many are free, the first one of them, the roots.
func ownBytes(numbers ...int) []byte {
	b := []byte("lexpages")
	for i := range 11 {
		n := 0
		if i < len(numbers) {
			n = numbers[i]
		}
		b = binary.LittleEndian.AppendUint64(b, uint64(n))
	}
	return padded(b, b)
}

// freeBytes is a free page, next to which another one is free.
func freeBytes(next int) []byte {
	return padded(binary.LittleEndian.AppendUint64([]byte("free"), uint64(next)))
}

// filled is a disk whose sectors last, each byte the same.
func filled(t *testing.T, sectors int, by byte) *disk.Disk {
	t.Helper()
	d, e := disk.New(sectors)
	if e != api.OK {
		t.Fatalf("a disk of %d sectors: %v", sectors, e)
	}
	lay(t, d, 0, bytes.Repeat([]byte{by}, sectors*api.Sector))
	return d
}

// lay lets bytes last from a sector on.
func lay(t *testing.T, d *disk.Disk, at int, b []byte) {
	t.Helper()
	if d.Write(at, b) != api.OK || d.Sync() != api.OK {
		t.Fatalf("bytes are not laid from sector %d on", at)
	}
}

// formatted is a disk with a pager; it was not noughts.
func formatted(t *testing.T, sectors, log int) *disk.Disk {
	t.Helper()
	d := filled(t, sectors, 'x')
	wants(t, "P4.1: Format", pager.Format(d, log), api.OK)
	return d
}

// opened is the pager that a disk has.
func opened(t *testing.T, d *disk.Disk, log int) *pager.Pager {
	t.Helper()
	p, e := pager.Open(d, log)
	if p == nil || e != api.OK {
		t.Fatalf("P4.1: Open: %v %v", p, e)
	}
	return p
}

// fresh is a pager without pages, and its disk.
func fresh(t *testing.T) (*pager.Pager, *disk.Disk) {
	t.Helper()
	d := formatted(t, size, log)
	return opened(t, d, log), d
}

// wants holds what a call answered against what it has to.
func wants(t *testing.T, call string, got, want api.Errno) {
	t.Helper()
	if got != want {
		t.Errorf("%s: %v, not %v", call, got, want)
	}
}

// alloc takes a page, and lets it be full of one byte.
func alloc(t *testing.T, p *pager.Pager, by byte) int {
	t.Helper()
	page, e := p.Alloc()
	wants(t, "P4.2: Alloc", e, api.OK)
	wants(t, "P4.2: Put", p.Put(page, full(by)), api.OK)
	return page
}

// content is what a pager has.
type content struct {
	pages map[int]string
	roots [8]int
}

// of is a content of pages, each full of one byte.
func of(pages map[int]byte, roots ...int) content {
	c := content{pages: map[int]string{}}
	for page, by := range pages {
		c.pages[page] = string(full(by))
	}
	copy(c.roots[:], roots)
	return c
}

func (c content) clone() content { return content{maps.Clone(c.pages), c.roots} }

func (c content) same(o content) bool { return maps.Equal(c.pages, o.pages) && c.roots == o.roots }

// String tells the pages, and how each begins.
func (c content) String() string {
	s := "roots"
	for _, r := range c.roots {
		s += " " + strconv.Itoa(r)
	}
	for _, page := range slices.Sorted(maps.Keys(c.pages)) {
		s += ", page " + strconv.Itoa(page) + " " + strconv.Quote(c.pages[page][:3])
	}
	return s
}

// contentOf is what a pager tells: the pages that it tells to be taken are those that can be read.
func contentOf(t *testing.T, p *pager.Pager) content {
	t.Helper()
	c := content{pages: map[int]string{}}
	pages := slices.Collect(p.Taken())
	taken, room, _, _ := p.State()
	if taken != len(pages) || !slices.IsSorted(pages) || len(pages) > 0 && (pages[0] < 1 || pages[len(pages)-1] > room) {
		t.Errorf("P4.4: taken pages %v, State tells %d of %d", pages, taken, room)
	}
	for page := -1; page <= room+1; page++ {
		b, e := p.Get(page)
		_, found := slices.BinarySearch(pages, page)
		switch {
		case found && (len(b) != api.Page || e != api.OK), !found && (b != nil || e != api.ErrRange):
			t.Errorf("P4.2: Get(%d), taken %v: %d bytes, %v", page, found, len(b), e)
		case found:
			c.pages[page] = string(b)
		}
	}
	for i := range c.roots {
		r, e := p.Root(i)
		wants(t, "P4.2: Root", e, api.OK)
		c.roots[i] = r
	}
	return c
}

// has holds what a pager tells against what it has to.
func has(t *testing.T, call string, p *pager.Pager, want content) {
	t.Helper()
	if got := contentOf(t, p); !got.same(want) {
		t.Errorf("%s: %v, not %v", call, got, want)
	}
}

// state holds a pager's State against what it has to be.
func state(t *testing.T, call string, p *pager.Pager, taken, room int, open, dead bool) {
	t.Helper()
	if n, r, o, d := p.State(); n != taken || r != room || o != open || d != dead {
		t.Errorf("%s: State %d %d %v %v, not %d %d %v %v", call, n, r, o, d, taken, room, open, dead)
	}
}

// idle holds against a disk that nothing was done since it had done so many steps.
func idle(t *testing.T, call string, d *disk.Disk, steps int) {
	t.Helper()
	if n, _ := d.Steps(); n != steps {
		t.Errorf("%s: %d steps, not %d", call, n, steps)
	}
}

func stepsOf(d *disk.Disk) int {
	n, _ := d.Steps()
	return n
}

// lasts holds against a disk that all that was written lasts, and what opens behind a crash.
func lasts(t *testing.T, call string, d *disk.Disk, log int, want content) {
	t.Helper()
	if at := slices.Collect(d.Pieces()); len(at) > 0 {
		t.Errorf("%s: pieces %v", call, at)
	}
	after, _ := d.Crash()
	has(t, call+", behind a crash", opened(t, after, log), want)
}

// TestExamples: the chapter's own.
func TestExamples(t *testing.T) {
	p, d := fresh(t)
	state(t, "P4.4: State", p, 0, 13, false, false)
	a, e := p.Alloc()
	wants(t, "P4.2: Alloc", e, api.OK)
	wants(t, "P4.2: Put", p.Put(a, full('x')), api.OK)
	wants(t, "P4.2: SetRoot", p.SetRoot(0, a), api.OK)
	wants(t, "P4.3: Commit", p.Commit(), api.OK)
	wants(t, "P4.2: Put", p.Put(a, full('y')), api.OK)
	wants(t, "P4.3: Rollback", p.Rollback(), api.OK)
	want := of(map[int]byte{a: 'x'}, a)
	has(t, "P4.3: Rollback", p, want)
	for _, page := range []int{0, 99} {
		if b, e := p.Get(page); b != nil || e != api.ErrRange {
			t.Errorf("P4.2: Get(%d): %d bytes, %v", page, len(b), e)
		}
	}
	wants(t, "P4.2: Put of 3 bytes", p.Put(a, []byte("abc")), api.ErrArg)
	if r, e := p.Root(8); r != 0 || e != api.ErrArg {
		t.Errorf("P4.2: Root(8): %d %v", r, e)
	}
	lasts(t, "P4.6", d, log, want)
}

// TestNone: a pager that is not there, or that no call made, and a disk that is not.
func TestNone(t *testing.T) {
	for _, p := range []*pager.Pager{nil, new(pager.Pager)} {
		page, e := p.Alloc()
		b, o := p.Get(-1)
		r, u := p.Root(-1)
		if page != 0 || b != nil || r != 0 {
			t.Errorf("P4.2: of none: Alloc %d, Get %v, Root %d", page, b, r)
		}
		for i, e := range []api.Errno{e, o, u, p.Free(-1), p.Put(-1, nil), p.SetRoot(-1, -1), p.Commit(), p.Rollback()} {
			if e != api.ErrNil {
				t.Errorf("P4.2: of none: %d: %v", i, e)
			}
		}
		for page := range p.Taken() {
			t.Errorf("P4.4: Taken of none tells %d", page)
		}
		state(t, "P4.4: of none", p, 0, 0, false, false)
	}
	for _, d := range []*disk.Disk{nil, new(disk.Disk)} {
		for _, log := range []int{-1, 0, 3, 4, 12} {
			wants(t, "P4.1: Format of no disk", pager.Format(d, log), api.ErrNil)
			if p, e := pager.Open(d, log); p != nil || e != api.ErrNil {
				t.Errorf("P4.1: Open of no disk: %v %v", p, e)
			}
		}
	}
}

// TestPlaces: P4.1: which logs a disk has room for, and 2 pages behind; what is refused does nothing.
func TestPlaces(t *testing.T) {
	for _, c := range []struct {
		sectors, log, room int // room 0: it is refused
	}{
		{8, 4, 1}, {9, 4, 1}, {10, 4, 2}, {11, 4, 2}, {9, 5, 1}, {11, 5, 2}, {40, 12, 13}, {40, 36, 1}, {40, 4, 17},
		{1 << 16, 4, 1<<15 - 3}, {1 << 16, 1<<16 - 4, 1},
		{7, 4, 0}, {6, 4, 0}, {8, 5, 0}, {5, 4, 0}, {4, 4, 0}, {1, 4, 0}, {40, 37, 0}, {40, 40, 0}, {40, 41, 0},
		{40, 3, 0}, {8, 3, 0}, {40, 0, 0}, {40, -1, 0}, {40, math.MinInt, 0}, {40, math.MaxInt, 0}, {40, math.MaxInt - 40, 0},
	} {
		call := "P4.1: of " + strconv.Itoa(c.sectors) + ", " + strconv.Itoa(c.log)
		if c.room > 0 {
			d := formatted(t, c.sectors, c.log)
			state(t, call, opened(t, d, c.log), 0, c.room, false, false)
			continue
		}
		d := filled(t, c.sectors, 'x')
		was, steps := d.Copy(), stepsOf(d)
		wants(t, call, pager.Format(d, c.log), api.ErrArg)
		if p, e := pager.Open(d, c.log); p != nil || e != api.ErrArg {
			t.Errorf("%s: Open: %v %v", call, p, e)
		}
		if idle(t, call, d, steps); !d.Same(was) {
			t.Errorf("%s: what is refused writes", call)
		}
	}
}

// TestFormat: P4.1: a pager without pages, whose roots are 0, whatever was there, and it lasts.
func TestFormat(t *testing.T) {
	for _, old := range []func() *disk.Disk{
		func() *disk.Disk { return filled(t, size, 0) },
		func() *disk.Disk { return filled(t, size, 0xFF) },
		func() *disk.Disk {
			p, d := fresh(t)
			for range 3 {
				alloc(t, p, 'a')
				p.SetRoot(1, 7)
				wants(t, "P4.3: Commit", p.Commit(), api.OK)
			}
			return d
		},
		func() *disk.Disk { // another place
			d := formatted(t, size, 20)
			p := opened(t, d, 20)
			alloc(t, p, 'a')
			wants(t, "P4.3: Commit", p.Commit(), api.OK)
			return d
		},
	} {
		d := old()
		wants(t, "P4.1: Format", pager.Format(d, log), api.OK)
		lasts(t, "P4.1: Format", d, log, of(nil))
		p := opened(t, d, log)
		has(t, "P4.1: Format", p, of(nil))
		state(t, "P4.1: Format", p, 0, last, false, false)
	}
}

// TestFormatFails: P4.1: each step of Format may fail; a further Format mends that.
func TestFormatFails(t *testing.T) {
	for step := 0; ; step++ {
		d := filled(t, size, 'x')
		d.Feed(late(step, step%3)...)
		e := pager.Format(d, log)
		if _, left := d.Steps(); left > 0 {
			if wants(t, "P4.1: Format", e, api.OK); step < 2 {
				t.Errorf("P4.1: Format has %d steps", step)
			}
			return
		}
		wants(t, "P4.1: Format of which a step fails", e, api.ErrDisk)
		for _, pick := range []int{0, 1, 2 + 300} {
			after, _ := d.Crash(slices.Repeat([]int{pick}, 30)...)
			if p, e := pager.Open(after, log); e == api.OK {
				has(t, "P4.1: Format of which a step fails", p, of(nil))
			} else if p != nil || e != api.ErrBroken {
				t.Errorf("P4.1: Open behind a Format of which a step fails: %v %v", p, e)
			}
		}
		wants(t, "P4.1: Format once more", pager.Format(d, log), api.OK)
		lasts(t, "P4.1: Format once more", d, log, of(nil))
	}
}

// inPlace holds the sectors of each page against what it is to be.
func inPlace(t *testing.T, d *disk.Disk, log int, want content) {
	t.Helper()
	for page, s := range want.pages {
		b, e := d.Read(log+2*page, 2)
		if string(b) != s || e != api.OK {
			t.Errorf("page %d lies in another place, or is another one: %v", page, e)
		}
	}
}

// TestOpen: P4.1: the pager as the last transaction left it; the log's batches are put into their pages, and synced, the log is emptied.
func TestOpen(t *testing.T) {
	for _, log := range []int{8, 12, 17} {
		d := formatted(t, size, log)
		p := opened(t, d, log)
		a, b := alloc(t, p, 'a'), alloc(t, p, 'b')
		wants(t, "P4.3: Commit", p.Commit(), api.OK)
		want := of(map[int]byte{a: 'c', b: 'b'}, 0, 5)
		p.Put(a, full('c'))
		p.SetRoot(1, 5)
		wants(t, "P4.3: Commit", p.Commit(), api.OK)
		p.Put(b, full('z')) // and let go by whoever opens it again
		p.SetRoot(1, 6)
		for range 3 {
			p = opened(t, d, log)
			has(t, "P4.1: Open", p, want)
			state(t, "P4.1: Open", p, 2, (size-log)/2-1, false, false)
			inPlace(t, d, log, want)
			if batches, e := wal.Look(d, 0, log); len(batches) > 0 || e != api.OK {
				t.Errorf("P4.1: Open leaves %d batches (%v)", len(batches), e)
			}
			lasts(t, "P4.1: Open", d, log, want)
		}
	}
}

// TestOpenFails: P4.1, P4.6: each step of Open may fail, once and twice; what opens then is what was there.
func TestOpenFails(t *testing.T) {
	p, d := fresh(t)
	alloc(t, p, 'a')
	alloc(t, p, 'b')
	wants(t, "P4.3: Commit", p.Commit(), api.OK)
	want := of(map[int]byte{1: 'a', 2: 'b'})
	for step := 0; ; step++ {
		for keep := range 4 {
			d := d.Copy()
			d.Feed(late(step, keep)...)
			p, e := pager.Open(d, log)
			if _, left := d.Steps(); left > 0 {
				if e != api.OK || step < 4 {
					t.Errorf("P4.1: Open has %d steps: %v", step, e)
				}
				return
			}
			if p != nil || e != api.ErrDisk {
				t.Errorf("P4.1: Open of which step %d fails: %v %v", step, p, e)
			}
			d.Feed(late(step/2, 0)...)
			pager.Open(d, log)
			d.Feed(make([]api.Fate, 20)...)
			has(t, "P4.6: Open", opened(t, d, log), want)
		}
	}
}

// broken holds against a disk that Open refuses it, and leaves it as it is.
func broken(t *testing.T, call string, d *disk.Disk, log int) {
	t.Helper()
	was, steps := d.Copy(), stepsOf(d)
	if p, e := pager.Open(d, log); p != nil || e != api.ErrBroken {
		t.Errorf("%s: %v %v", call, p, e)
	}
	if idle(t, call, d, steps); !d.Same(was) {
		t.Errorf("%s: what is refused is written to", call)
	}
}

// TestBrokenLog: P4.1: no log, or one that is no pager's.
func TestBrokenLog(t *testing.T) {
	for _, by := range []byte{0, 'x', 0xFF} {
		broken(t, "P4.1: Open of any bytes", filled(t, size, by), log)
		d := formatted(t, size, log)
		lay(t, d, 0, bytes.Repeat([]byte{by}, 2*api.Sector))
		broken(t, "P4.1: Open without a log's heads", d, log)
	}
	d := formatted(t, size, log)
	for _, other := range []int{4, 5, 10, 11, 13, 14, 16, 36} {
		broken(t, "P4.1: Open of a log of "+strconv.Itoa(other), d, other)
	}
	for _, batch := range [][]byte{
		{1}, {1, 0, 0}, {1, 0, 1, 0}, {1, 0, 3, 0, 'a', 'b'}, {14, 0, 0, 0}, {0, 1, 0, 0}, {255, 255, 0, 0},
		append([]byte{1, 0, 1, 4}, bytes.Repeat([]byte{'x'}, api.Page+1)...), {1, 0, 0, 0, 2}, []byte("somebody's bytes"),
	} {
		d := formatted(t, size, log)
		l, _ := wal.Open(d, 0, log)
		wants(t, "P3.3: Append", l.Append(batch), api.OK)
		broken(t, "P4.1: Open of a log of batches that are no transactions", d, log)
	}
	d = formatted(t, size, log) // one that is: noughts behind a page's bytes are left out
	l, _ := wal.Open(d, 0, log)
	own := ownBytes(3)
	wants(t, "P3.3: Append", l.Append(slices.Concat([]byte{1, 0, 2, 0}, []byte("ab"), []byte{2, 0, 0, 0, 0, 0, 0, 4}, own)), api.OK)
	want := content{pages: map[int]string{1: string(padded([]byte("ab"))), 2: string(full(0))}}
	has(t, "P4.1: Open", opened(t, d, log), want)
	inPlace(t, d, log, want)
	l, _ = wal.Open(d, 0, log)
	wants(t, "P3.3: Append", l.Append([]byte{1, 0, 0, 0}), api.OK)
	wants(t, "P3.3: Append", l.Append(nil), api.OK)
	want.pages[1] = string(full(0))
	has(t, "P4.1: Open", opened(t, d, log), want)
}

// TestBrokenOwn: P4.1: a page 0 that is none, whichever byte of it is another one.
func TestBrokenOwn(t *testing.T) {
	p, d := fresh(t)
	for range 4 {
		alloc(t, p, 'a')
	}
	p.Free(2)
	p.SetRoot(3, 1<<40)
	wants(t, "P4.3: Commit", p.Commit(), api.OK)
	opened(t, d, log)
	own, _ := d.Read(log, 2)
	for _, by := range []byte{0, 'x', 0xFF} {
		lay(t, d, log, full(by))
		broken(t, "P4.1: Open of any page 0", d, log)
	}
	for i := range own {
		for _, mask := range []byte{1, 0x80, 0xFF} {
			own[i] ^= mask
			lay(t, d, log, own)
			broken(t, "P4.1: Open of a page 0 of which byte "+strconv.Itoa(i)+" is another one", d, log)
			own[i] ^= mask
		}
	}
	for _, torn := range []int{9, 17, 50, 96, 104, 105, 113, 150} { // some of its bytes are of another page 0
		lay(t, d, log, append(ownBytes(7, 2, 3, 9, 9, 9, 9)[:torn], own[torn:]...))
		broken(t, "P4.1: Open of a page 0 that is torn", d, log)
	}
	lay(t, d, log, own)
	has(t, "P4.1: Open", opened(t, d, log), of(map[int]byte{1: 'a', 3: 'a', 4: 'a'}, 0, 0, 0, 1<<40))
}

// TestOwn: P4.1: what page 0 tells has to be so. The pages 2 and 5, and 5 and 6, tell one another as the next free one; 1, 3 and 4 tell none, 7 and 8 what may not be.
func TestOwn(t *testing.T) {
	for i, c := range []struct {
		own  []int
		want bool
	}{
		{[]int{1}, true},
		{[]int{14}, true},
		{[]int{14, 0, 0, math.MaxInt, 0, 0, 0, 0, 0, 0, math.MaxInt}, true},
		{[]int{9, 1, 3}, true},
		{[]int{9, 2, 2}, false},  // the list goes on
		{[]int{9, 1, 1}, true},   // 1 ends it
		{[]int{2, 1, 1}, true},   // no page but a free one
		{[]int{0}, false},        // page 0 itself was taken
		{[]int{-1}, false},       //
		{[]int{15}, false},       // more than there is room for
		{[]int{1 << 40}, false},  //
		{[]int{1, 0, 1}, false},  // a first free one without any
		{[]int{9, 0, 1}, false},  //
		{[]int{9, 0, -1}, false}, //
		{[]int{9, 1, 0}, false},  // any without a first one
		{[]int{9, 2, 1}, false},  // the list ends too early
		{[]int{9, 1, 5}, false},  // it ends too late
		{[]int{9, 3, 5}, false},  // it goes round: 5, 6, 5
		{[]int{9, 4, 5}, false},
		{[]int{9, 8, 5}, false},
		{[]int{9, 9, 5}, false},           // not all pages can be free
		{[]int{9, 1 << 60, 5}, false},     //
		{[]int{9, -1, 5}, false},          //
		{[]int{9, -1, 0}, false},          //
		{[]int{9, 1, 9}, false},           // it was never taken
		{[]int{1, 1, 1}, false},           //
		{[]int{9, 1, 14}, false},          // past the room
		{[]int{9, 1, 99}, false},          //
		{[]int{9, 1, -3}, false},          //
		{[]int{9, 1, 1<<32 + 1}, false},   //
		{[]int{9, 2, 7}, false},           // 7 tells 99
		{[]int{9, 1, 7}, false},           //
		{[]int{9, 1, 8}, false},           // 8 is no free page
		{[]int{9, 0, 0, -1}, false},       // a root below 0
		{[]int{9, 0, 0, 5, 5, -1}, false}, //
		{[]int{9, 0, 0, 0, 0, 0, 0, 0, 0, 0, math.MinInt}, false},
	} {
		d := formatted(t, size, log)
		lay(t, d, log, ownBytes(c.own...))
		for page, next := range []int{1: 0, 2: 5, 3: 0, 4: 0, 5: 6, 6: 5, 7: 99} {
			if page > 0 {
				lay(t, d, log+2*page, freeBytes(next))
			}
		}
		if !c.want {
			broken(t, "P4.1: Open of page 0 "+strconv.Itoa(i), d, log)
			continue
		}
		p := opened(t, d, log)
		state(t, "P4.1: Open of page 0 "+strconv.Itoa(i), p, c.own[0]-1-append(c.own, 0)[1], last, false, false)
		for i := range 8 {
			if r, _ := p.Root(i); r != append(c.own, make([]int, 11)...)[3+i] {
				t.Errorf("P4.1: root %d is %d", i, r)
			}
		}
	}
}

// TestBrokenFree: P4.1: what page 0 tells of free pages is not so, if one of them is none.
func TestBrokenFree(t *testing.T) {
	p, d := fresh(t)
	for range 6 {
		alloc(t, p, 'a')
	}
	for _, page := range []int{3, 5, 1} {
		wants(t, "P4.2: Free", p.Free(page), api.OK)
	}
	wants(t, "P4.3: Commit", p.Commit(), api.OK)
	want := of(map[int]byte{2: 'a', 4: 'a', 6: 'a'})
	has(t, "P4.1: Open", opened(t, d, log), want)
	for _, page := range []int{1, 3, 5} {
		at := log + 2*page
		was, _ := d.Read(at, 2)
		for i := range was {
			b := bytes.Clone(was)
			b[i]++
			lay(t, d, at, b)
			broken(t, "P4.1: Open of a free page of which byte "+strconv.Itoa(i)+" is another one", d, log)
		}
		lay(t, d, at, full('x'))
		broken(t, "P4.1: Open of a free page that is none", d, log)
		lay(t, d, at, was)
	}
	has(t, "P4.1: Open", opened(t, d, log), want)
	// A page 0 of another time: since then one of the free pages was taken.
	own, _ := d.Read(log, 2)
	p = opened(t, d, log)
	alloc(t, p, 'b')
	wants(t, "P4.3: Commit", p.Commit(), api.OK)
	opened(t, d, log)
	lay(t, d, log, own)
	broken(t, "P4.1: Open of a page 0 of another time", d, log)
}

// TestAlloc: P4.2: each page once, all there are, of noughts, whatever lay there.
func TestAlloc(t *testing.T) {
	for _, sectors := range []int{16, 17, size} {
		d := formatted(t, sectors, log)
		p := opened(t, d, log)
		room := (sectors-log)/2 - 1
		met := map[int]bool{}
		for i := range room {
			page, e := p.Alloc()
			if page < 1 || page > room || met[page] || e != api.OK {
				t.Errorf("P4.2: Alloc %d: %d %v", i, page, e)
			}
			met[page] = true
			if b, e := p.Get(page); !bytes.Equal(b, full(0)) || e != api.OK {
				t.Errorf("P4.2: a new page is not of noughts: %v", e)
			}
			state(t, "P4.4: State", p, i+1, room, true, false)
		}
		for range 2 {
			if page, e := p.Alloc(); page != 0 || e != api.ErrFull {
				t.Errorf("P4.2: Alloc of one more: %d %v", page, e)
			}
		}
		state(t, "P4.4: State", p, room, room, true, false)
		// The last free page, again and again.
		for page := range met {
			p.Put(page, full('x'))
			wants(t, "P4.2: Free", p.Free(page), api.OK)
			state(t, "P4.4: State", p, room-1, room, true, false)
			got, e := p.Alloc()
			if b, _ := p.Get(got); got != page || e != api.OK || !bytes.Equal(b, full(0)) {
				t.Errorf("P4.2: Alloc of the last free page: %d %v", got, e)
			}
		}
	}
}

// TestAllocNoughts: P4.2, P4.3: pages that were taken, and not put, are noughts, behind Commit and Open, too.
func TestAllocNoughts(t *testing.T) {
	p, d := fresh(t)
	a, b := alloc(t, p, 'a'), alloc(t, p, 'b')
	wants(t, "P4.3: Commit", p.Commit(), api.OK)
	p.Free(a)
	p.Free(b)
	wants(t, "P4.3: Commit", p.Commit(), api.OK)
	has(t, "P4.2: Free", p, of(nil))
	for range 3 {
		p.Alloc()
	}
	want := of(map[int]byte{1: 0, 2: 0, 3: 0})
	has(t, "P4.2: Alloc", p, want)
	wants(t, "P4.3: Commit", p.Commit(), api.OK)
	has(t, "P4.3: Commit", p, want)
	lasts(t, "P4.3: Commit", d, log, want)
}

// anyPages are numbers of pages of which none is taken, if 1, 3 and 4 alone are.
var anyPages = []int{0, -1, 2, 5, 6, 13, 14, 15, 99, 1 << 15, 1 << 16, 1<<32 + 1, math.MaxInt, math.MinInt, math.MinInt + 1}

// TestNotTaken: P4.2: what is no taken page is refused, in a transaction and behind it; nothing changes.
func TestNotTaken(t *testing.T) {
	p, d := fresh(t)
	for range 5 {
		alloc(t, p, 'a')
	}
	p.Free(5)
	p.Free(2)
	want := of(map[int]byte{1: 'a', 3: 'a', 4: 'a'})
	for round := range 3 {
		_, _, open, _ := p.State()
		for _, page := range anyPages {
			b, e := p.Get(page)
			if b != nil || e != api.ErrRange {
				t.Errorf("P4.2: Get(%d): %d bytes, %v", page, len(b), e)
			}
			wants(t, "P4.2: Put("+strconv.Itoa(page)+")", p.Put(page, full('b')), api.ErrRange)
			wants(t, "P4.2: Free("+strconv.Itoa(page)+")", p.Free(page), api.ErrRange)
		}
		has(t, "P4.2: what is refused", p, want)
		state(t, "P4.2: what is refused", p, 3, last, open, false)
		switch round {
		case 0:
			wants(t, "P4.3: Commit", p.Commit(), api.OK)
		case 1:
			p = opened(t, d, log)
		}
	}
}

// TestPut: P4.2: bytes that are not a page's; those that are come back, and nobody shares them.
func TestPut(t *testing.T) {
	p, d := fresh(t)
	a := alloc(t, p, 'a')
	for _, n := range []int{0, 1, 3, 512, 1023, 1025, 2048} {
		for _, page := range []int{a, 0, 2, -1} {
			wants(t, "P4.2: Put of "+strconv.Itoa(n)+" bytes", p.Put(page, make([]byte, n)), api.ErrArg)
		}
	}
	has(t, "P4.2: Put that is refused", p, of(map[int]byte{a: 'a'}))
	b := make([]byte, api.Page, api.Page+8)
	for i := range b {
		b[i] = byte(i * i >> 3)
	}
	want := bytes.Clone(b)
	wants(t, "P4.2: Put", p.Put(a, b), api.OK)
	if !bytes.Equal(b[:cap(b)], append(bytes.Clone(want), make([]byte, 8)...)) {
		t.Errorf("P4.2: Put changes what it is handed")
	}
	clear(b)
	for round := range 3 { // in the transaction, in the log, in its place
		got, _ := p.Get(a)
		again, _ := p.Get(a)
		clear(got[:cap(got)])
		if after, e := p.Get(a); !bytes.Equal(again, want) || !bytes.Equal(after, want) || e != api.OK {
			t.Errorf("P4.2: Get in round %d: another one (%v)", round, e)
		}
		if round == 0 {
			wants(t, "P4.3: Commit", p.Commit(), api.OK)
		} else {
			p = opened(t, d, log)
		}
	}
}

// TestRoots: P4.2: eight numbers, none below 0.
func TestRoots(t *testing.T) {
	p, d := fresh(t)
	for _, i := range []int{-1, 8, 9, math.MaxInt, math.MinInt} {
		for _, v := range []int{0, 1, -1} {
			wants(t, "P4.2: SetRoot("+strconv.Itoa(i)+")", p.SetRoot(i, v), api.ErrArg)
		}
		if r, e := p.Root(i); r != 0 || e != api.ErrArg {
			t.Errorf("P4.2: Root(%d): %d %v", i, r, e)
		}
	}
	for i := range 8 {
		for _, v := range []int{-1, -2, math.MinInt} {
			wants(t, "P4.2: SetRoot below 0", p.SetRoot(i, v), api.ErrArg)
		}
	}
	state(t, "P4.2: SetRoot that is refused", p, 0, last, false, false)
	want := of(nil, math.MaxInt, 1, 255, 256, 1<<32, 1<<62, 0, 77)
	for i, v := range want.roots {
		wants(t, "P4.2: SetRoot", p.SetRoot(i, v), api.OK)
		if r, e := p.Root(i); r != v || e != api.OK {
			t.Errorf("P4.2: Root(%d): %d %v", i, r, e)
		}
	}
	has(t, "P4.2: SetRoot", p, want)
	wants(t, "P4.3: Commit", p.Commit(), api.OK)
	has(t, "P4.3: Commit", p, want)
	lasts(t, "P4.3: Commit", d, log, want)
	p = opened(t, d, log)
	has(t, "P4.1: Open", p, want)
	for i := range 8 {
		p.SetRoot(i, 0)
	}
	wants(t, "P4.3: Commit", p.Commit(), api.OK)
	lasts(t, "P4.3: Commit of noughts", d, log, of(nil))
}

// TestTransactions: P4.2, P4.3: which calls begin a transaction, and which do not; what Commit and Rollback do then, and without one.
func TestTransactions(t *testing.T) {
	was := of(map[int]byte{1: 'a', 2: 'b'}, 1)
	for i, c := range []struct {
		call func(p *pager.Pager) api.Errno
		want content
		e    api.Errno
	}{
		{func(p *pager.Pager) api.Errno { _, e := p.Alloc(); return e }, of(map[int]byte{1: 'a', 2: 'b', 3: 0}, 1), api.OK},
		{func(p *pager.Pager) api.Errno { return p.Free(1) }, of(map[int]byte{2: 'b'}, 1), api.OK},
		{func(p *pager.Pager) api.Errno { return p.Put(2, full('c')) }, of(map[int]byte{1: 'a', 2: 'c'}, 1), api.OK},
		{func(p *pager.Pager) api.Errno { return p.SetRoot(7, 9) }, of(map[int]byte{1: 'a', 2: 'b'}, 1, 0, 0, 0, 0, 0, 0, 9), api.OK},
		{func(p *pager.Pager) api.Errno { return p.SetRoot(0, 1) }, was, api.OK},
		{func(p *pager.Pager) api.Errno { return p.Put(1, full('a')) }, was, api.OK},
		{func(p *pager.Pager) api.Errno { return p.Free(3) }, was, api.ErrRange},
		{func(p *pager.Pager) api.Errno { return p.Put(0, full('c')) }, was, api.ErrRange},
		{func(p *pager.Pager) api.Errno { return p.Put(1, nil) }, was, api.ErrArg},
		{func(p *pager.Pager) api.Errno { return p.SetRoot(8, 1) }, was, api.ErrArg},
		{func(p *pager.Pager) api.Errno { _, e := p.Get(1); return e }, was, api.OK},
		{func(p *pager.Pager) api.Errno { _, e := p.Root(1); return e }, was, api.OK},
		{func(p *pager.Pager) api.Errno { p.Taken(); return api.OK }, was, api.OK},
	} {
		begins := c.e == api.OK && i < 6
		for _, keep := range []bool{true, false} {
			p, d := fresh(t)
			alloc(t, p, 'a')
			alloc(t, p, 'b')
			p.SetRoot(0, 1)
			wants(t, "P4.3: Commit", p.Commit(), api.OK)
			steps := stepsOf(d)
			wants(t, "P4.3: Commit without a transaction", p.Commit(), api.OK)
			wants(t, "P4.3: Rollback without a transaction", p.Rollback(), api.OK)
			has(t, "P4.3: without a transaction", p, was)
			idle(t, "P4.3: without a transaction", d, steps)
			if e := c.call(p); e != c.e {
				t.Errorf("P4.2: call %d: %v, not %v", i, e, c.e)
			}
			state(t, "P4.4: State", p, len(c.want.pages), last, begins, false)
			has(t, "P4.2: meanwhile", p, c.want)
			idle(t, "P4.2: meanwhile", d, steps)
			want, end := was, p.Rollback
			if keep {
				want, end = c.want, p.Commit
			}
			wants(t, "P4.3: at the end", end(), api.OK)
			state(t, "P4.4: State", p, len(want.pages), last, false, false)
			has(t, "P4.3: behind it", p, want)
			if !keep || !begins {
				idle(t, "P4.3: Rollback, and Commit of nothing", d, steps)
			}
			lasts(t, "P4.3: behind it", d, log, want)
			wants(t, "P4.3: Rollback behind the end", p.Rollback(), api.OK)
			has(t, "P4.3: Rollback behind the end", p, want)
		}
	}
}

// TestRollback: P4.3: of a transaction of many changes nothing is left; what comes behind it is as if it had not been.
func TestRollback(t *testing.T) {
	p, d := fresh(t)
	for i := range 5 {
		alloc(t, p, 'a'+byte(i))
	}
	p.Free(4)
	p.Free(2)
	p.SetRoot(1, 5)
	wants(t, "P4.3: Commit", p.Commit(), api.OK)
	was := of(map[int]byte{1: 'a', 3: 'c', 5: 'e'}, 0, 5)
	has(t, "P4.3: Commit", p, was)
	next, _ := p.Alloc()
	for range 3 {
		p.Rollback()
		has(t, "P4.3: Rollback", p, was)
		p.Free(1)
		p.Free(5)
		for i := range 12 { // free ones, those that were just now, and new ones
			p.Alloc()
			if i%4 == 0 {
				p.Free(3)
			}
		}
		p.Put(5, full('z'))
		p.SetRoot(0, 1)
		p.SetRoot(1, 0)
	}
	p.Rollback()
	has(t, "P4.3: Rollback", p, was)
	state(t, "P4.3: Rollback", p, 3, last, false, false)
	if again, _ := p.Alloc(); again != next {
		t.Errorf("P4.3: Alloc behind Rollback tells %d, ahead of it %d", again, next)
	}
	p.Free(next)
	wants(t, "P4.3: Commit", p.Commit(), api.OK)
	lasts(t, "P4.3: Commit", d, log, was)
}

// prepared is a pager with so many pages, and a log that has had so many transactions since it was emptied.
func prepared(t *testing.T, log, pages, since int) (*pager.Pager, *disk.Disk) {
	t.Helper()
	d := formatted(t, log+2*pages+20, log)
	p := opened(t, d, log)
	for i := range pages {
		alloc(t, p, byte(i))
		wants(t, "P4.3: Commit", p.Commit(), api.OK)
	}
	p = opened(t, d, log)
	for i := range since {
		p.SetRoot(0, i+1)
		wants(t, "P4.3: Commit", p.Commit(), api.OK)
	}
	return p, d
}

// TestRoom: P4.3: whether a transaction has room hangs on its pages, and on the log, emptied, not on what the log has by then.
func TestRoom(t *testing.T) {
	for log := 5; log <= 14; log++ {
		for put := range 7 {
			for freed := range 3 {
				for since := range 4 {
					roomOf(t, log, put, freed, since)
				}
			}
		}
	}
	for _, c := range [][3]int{{5, 0, 79}, {8, 2, 42}} { // just all the room that there is
		for more := range 3 {
			for since := range 2 {
				roomOf(t, c[0], c[1], c[2]-1+more, since)
			}
		}
	}
}

// roomOf changes some pages, and frees some, all at once.
func roomOf(t *testing.T, log, put, freed, since int) {
	t.Helper()
	call := "P4.3: log " + strconv.Itoa(log) + ", " + strconv.Itoa(put) + " put, " + strconv.Itoa(freed) + " freed, " + strconv.Itoa(since) + " since"
	p, d := prepared(t, log, put+freed, since)
	was, steps := contentOf(t, p), stepsOf(d)
	now, want := was.clone(), api.OK
	for page := 1; page <= put; page++ {
		p.Put(page, full('p'))
		now.pages[page] = string(full('p'))
	}
	for page := put + 1; page <= put+freed; page++ {
		p.Free(page)
		delete(now.pages, page)
	}
	p.SetRoot(7, 7)
	now.roots[7] = 7
	if put*(api.Page+logged)+freed*freeLogged+ownLogged > (log-2)*488-4 {
		now, want = was, api.ErrFull
	}
	wants(t, call, p.Commit(), want)
	state(t, call, p, len(now.pages), put+freed+9, false, false)
	has(t, call, p, now)
	if want == api.ErrFull {
		idle(t, call, d, steps)
	}
	wants(t, call+": Rollback", p.Rollback(), api.OK)
	p.SetRoot(6, 6)
	now.roots[6] = 6
	wants(t, call+": and another one", p.Commit(), api.OK)
	lasts(t, call, d, log, now)
}

// TestLeastLog: P4.3: a log of 4 sectors has no room for a page.
func TestLeastLog(t *testing.T) {
	d := formatted(t, 20, 4)
	p := opened(t, d, 4)
	for i := range 20 {
		p.SetRoot(0, i+1)
		wants(t, "P4.3: Commit of a root", p.Commit(), api.OK)
		alloc(t, p, 'a')
		p.SetRoot(0, 0)
		wants(t, "P4.3: Commit of a page", p.Commit(), api.ErrFull)
		has(t, "P4.3: Commit without room", p, of(nil, i+1))
		lasts(t, "P4.3: Commit without room", d, 4, of(nil, i+1))
	}
}

// TestOnlyPages: P4.3: a transaction that changes bytes alone lasts as well; the log is emptied ever again.
func TestOnlyPages(t *testing.T) {
	p, d := fresh(t)
	want := of(nil)
	for i := range 10 {
		want.pages[alloc(t, p, byte(i))] = string(full(byte(i)))
		wants(t, "P4.3: Commit", p.Commit(), api.OK)
	}
	for i := range 60 {
		page := 1 + i*7%10
		p.Put(page, full(byte(i)))
		want.pages[page] = string(full(byte(i)))
		wants(t, "P4.3: Commit", p.Commit(), api.OK)
		has(t, "P4.3: Commit", p, want)
		lasts(t, "P4.3: Commit", d, log, want)
	}
}

// TestTaken: P4.4: the pages as they are when it is called, whatever is done meanwhile.
func TestTaken(t *testing.T) {
	p, _ := fresh(t)
	none := p.Taken()
	for range 6 {
		alloc(t, p, 'a')
	}
	p.Free(3)
	five := p.Taken()
	p.Free(1)
	p.Commit()
	four := p.Taken()
	p.Free(6)
	p.Alloc()
	p.Alloc()
	for range 3 {
		for i, c := range []struct{ got, want []int }{
			{slices.Collect(none), nil}, {slices.Collect(five), []int{1, 2, 4, 5, 6}}, {slices.Collect(four), []int{2, 4, 5, 6}},
		} {
			if !slices.Equal(c.got, c.want) {
				t.Errorf("P4.4: Taken %d tells %v, not %v", i, c.got, c.want)
			}
		}
		for page := range five { // it is left, and gone through within itself
			if got := slices.Collect(five); len(got) != 5 || page != 1 {
				t.Errorf("P4.4: Taken tells %v, first %d", got, page)
			}
			break
		}
	}
	for page := range p.Taken() { // each is freed as it is met
		wants(t, "P4.2: Free", p.Free(page), api.OK)
	}
	has(t, "P4.4: Taken of which all are freed", p, of(nil))
}

// TestGreatest: P4.2, P4.4: all pages of the greatest disk.
func TestGreatest(t *testing.T) {
	const log, most = 1 << 11, (1<<16-1<<11)/2 - 1
	d := formatted(t, 1<<16, log)
	p := opened(t, d, log)
	for i := range most {
		page, e := p.Alloc()
		b := binary.LittleEndian.AppendUint32(nil, uint32(page))
		if page != i+1 || e != api.OK || p.Put(page, padded(b, b)) != api.OK {
			t.Fatalf("P4.2: Alloc of page %d: %d %v", i+1, page, e)
		}
		if i%900 == 0 || i == most-1 {
			wants(t, "P4.3: Commit", p.Commit(), api.OK)
		}
	}
	state(t, "P4.4: State", p, most, most, false, false)
	p = opened(t, d, log)
	i := 0
	for page := range p.Taken() {
		i++
		b, _ := p.Get(page)
		if page != i || binary.LittleEndian.Uint64(b) != uint64(page)<<32|uint64(page) {
			t.Fatalf("P4.1: page %d is %d: %v", i, page, b[:8])
		}
		wants(t, "P4.2: Free", p.Free(page), api.OK)
	}
	wants(t, "P4.3: Commit", p.Commit(), api.OK)
	p = opened(t, d, log)
	state(t, "P4.4: State", p, 0, most, false, false)
	met := make([]bool, most+1)
	for range most {
		page, e := p.Alloc()
		if e != api.OK || page < 1 || met[page] {
			t.Fatalf("P4.2: Alloc of a page that was free: %d %v", page, e)
		}
		met[page] = true
	}
	if page, e := p.Alloc(); page != 0 || e != api.ErrFull {
		t.Errorf("P4.2: Alloc of one more: %d %v", page, e)
	}
}
