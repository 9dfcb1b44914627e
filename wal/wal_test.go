package wal_test

import (
	"bytes"
	"encoding/binary"
	"iter"
	"math"
	"slices"
	"strconv"
	"strings"
	"testing"

	"lexicon/api"
	"lexicon/disk"
	"lexicon/wal"
)

const sector = api.Sector

// fail is the fate of a step of which so many pieces go well all the same.
func fail(keep int) api.Fate { return api.Fate{Kind: api.FateFail, Keep: keep} }

// late is fates of which the last one is a failure, behind n good ones.
func late(n, keep int) []api.Fate { return append(make([]api.Fate, n), fail(keep)) }

// headBytes is a head's sector.
func headBytes(run, base, again uint64) []byte {
	b := make([]byte, sector)
	binary.LittleEndian.PutUint64(b, run)
	binary.LittleEndian.PutUint64(b[8:], base)
	binary.LittleEndian.PutUint64(b[504:], again)
	return b
}

// part is a sector of the body.
func part(run uint64, place uint32, data ...byte) []byte {
	b := make([]byte, sector)
	binary.LittleEndian.PutUint64(b, run)
	binary.LittleEndian.PutUint32(b[8:], place)
	copy(b[12:500], data)
	copy(b[500:], b[:12])
	return b
}

// with is a copy of bytes that has others from a place on.
func with(b []byte, at int, others ...byte) []byte {
	b = bytes.Clone(b)
	copy(b[at:], others)
	return b
}

// long is n bytes with a length of theirs ahead.
func long(length uint32, n int, by byte) []byte {
	return append(binary.LittleEndian.AppendUint32(nil, length), bytes.Repeat([]byte{by}, n)...)
}

// parts is the sectors of a batch.
func parts(run uint64, place uint32, batch []byte) []byte {
	var all []byte
	rest := append(long(uint32(len(batch)), 0, 0), batch...)
	for ; len(rest) > 0; place++ {
		n := min(len(rest), 488)
		all = append(all, part(run, place, rest[:n]...)...)
		rest = rest[n:]
	}
	return all
}

// full is n sectors of one byte.
func full(by byte, n int) []byte { return bytes.Repeat([]byte{by}, sector*n) }

// laid is a disk whose sectors last with these bytes, and with noughts behind them.
func laid(t *testing.T, sectors int, b ...[]byte) *disk.Disk {
	t.Helper()
	d, e := disk.New(sectors)
	if e == api.OK {
		e = d.Write(0, slices.Concat(b...))
	}
	if e == api.OK {
		e = d.Sync()
	}
	if e != api.OK {
		t.Fatalf("a disk of %d sectors: %v", sectors, e)
	}
	return d
}

// formatted is a disk of which all is a log.
func formatted(t *testing.T, sectors int) *disk.Disk {
	t.Helper()
	d := laid(t, sectors)
	wants(t, "P3.1: Format", wal.Format(d, 0, sectors), api.OK)
	return d
}

// opened is the log that a disk is all of.
func opened(t *testing.T, d *disk.Disk) *wal.Log {
	t.Helper()
	l, e := wal.Open(d, 0, d.Size())
	if l == nil || e != api.OK {
		t.Fatalf("P3.2: Open: %v %v", l, e)
	}
	return l
}

// wants holds what a call answered against what it has to.
func wants(t *testing.T, call string, got, want api.Errno) {
	t.Helper()
	if got != want {
		t.Errorf("%s: %v, not %v", call, got, want)
	}
}

// short tells batches: of each its length and its bytes, of many like ones the first.
func short(batches [][]byte) string {
	var s []string
	for _, b := range batches {
		s = append(s, strconv.Itoa(len(b))+" "+string(slices.Compact(bytes.Clone(b))))
	}
	return strings.Join(s, ", ")
}

// collected is the batches that an iterator tells, whose numbers have to rise from 0 on.
func collected(t *testing.T, all iter.Seq2[int, []byte]) [][]byte {
	t.Helper()
	var batches [][]byte
	for i, b := range all {
		if i != len(batches) {
			t.Errorf("P3.2: Batches: number %d, not %d", i, len(batches))
		}
		batches = append(batches, b)
	}
	return batches
}

// has holds a log's batches against what they have to be.
func has(t *testing.T, call string, l *wal.Log, want ...string) {
	t.Helper()
	if got := collected(t, l.Batches()); !same(got, want) {
		t.Errorf("%s: batches %q, not %q", call, short(got), want)
	}
}

// looks holds what Look tells of a disk that is all log against what it has to.
func looks(t *testing.T, call string, d *disk.Disk, want ...string) {
	t.Helper()
	if got, e := wal.Look(d, 0, d.Size()); !same(got, want) || e != api.OK {
		t.Errorf("%s: Look: %q (%v), not %d: %.100q", call, short(got), e, len(want), want)
	}
}

func same(got [][]byte, want []string) bool {
	return slices.EqualFunc(got, want, func(b []byte, s string) bool { return string(b) == s })
}

// state holds a log's State against what it has to be.
func state(t *testing.T, call string, l *wal.Log, many, room int, run uint64, dead bool) {
	t.Helper()
	if m, r, n, d := l.State(); m != many || r != room || n != run || d != dead {
		t.Errorf("%s: State %d %d %d %v, not %d %d %d %v", call, m, r, n, d, many, room, run, dead)
	}
}

// reads holds all that is read against what it has to be.
func reads(t *testing.T, call string, d *disk.Disk, want ...[]byte) {
	t.Helper()
	got, e := d.Read(0, d.Size())
	all := slices.Concat(want...)
	if bytes.Equal(got, all) && e == api.OK {
		return
	}
	for i := range min(len(got), len(all)) {
		if got[i] != all[i] {
			t.Errorf("%s: sector %d has %d at %d, not %d", call, i/sector, got[i], i%sector, all[i])
			return
		}
	}
	t.Errorf("%s: reads %d bytes (%v), not %d", call, len(got), e, len(all))
}

// synced holds against a disk that it has no pieces, and has done so many steps.
func synced(t *testing.T, call string, d *disk.Disk, steps int) {
	t.Helper()
	if at := slices.Collect(d.Pieces()); len(at) > 0 {
		t.Errorf("%s: pieces %v", call, at)
	}
	stepped(t, call, d, steps)
}

func stepped(t *testing.T, call string, d *disk.Disk, steps int) {
	t.Helper()
	if n, _ := d.Steps(); n != steps {
		t.Errorf("%s: %d steps, not %d", call, n, steps)
	}
}

// places are where a log may lie, or may not, on a disk of 8 sectors.
var places = []struct {
	from, n int
	want    api.Errno
}{
	{0, 8, api.OK}, {4, 4, api.OK}, {0, 4, api.OK}, {3, 5, api.OK}, {3, 4, api.OK},
	{0, 3, api.ErrArg}, {0, 0, api.ErrArg}, {0, -1, api.ErrArg}, {0, math.MinInt, api.ErrArg},
	{-1, 4, api.ErrArg}, {-1, 8, api.ErrArg}, {math.MinInt, 8, api.ErrArg}, {math.MinInt, math.MaxInt, api.ErrArg},
	{-1, 3, api.ErrArg}, {9, 3, api.ErrArg}, {-5, 100, api.ErrArg}, {math.MaxInt, 3, api.ErrArg},
	{0, 9, api.ErrRange}, {1, 8, api.ErrRange}, {5, 4, api.ErrRange}, {8, 4, api.ErrRange}, {100, 4, api.ErrRange},
	{0, math.MaxInt, api.ErrRange}, {math.MaxInt, 4, api.ErrRange}, {math.MaxInt, math.MaxInt, api.ErrRange}, {1, math.MaxInt, api.ErrRange},
}

// TestPlaces: P3.1, P3.2: where a log may lie; what is refused does nothing.
func TestPlaces(t *testing.T) {
	for _, p := range places {
		call := " at " + strconv.Itoa(p.from) + ", " + strconv.Itoa(p.n)
		d := laid(t, 8, full('x', 8))
		was := d.Copy()
		if e := wal.Format(d, p.from, p.n); e != p.want {
			t.Errorf("P3.1: Format%s: %v, not %v", call, e, p.want)
		}
		if p.want == api.OK {
			b, e := wal.Look(d, p.from, p.n)
			l, o := wal.Open(d, p.from, p.n)
			if len(b) > 0 || e != api.OK || l == nil || o != api.OK {
				t.Errorf("P3.1: Look%s: %v %v; Open: %v %v", call, b, e, l, o)
			}
			continue
		}
		for i, d := range []*disk.Disk{d, formatted(t, 8)} {
			steps, _ := d.Steps()
			b, e := wal.Look(d, p.from, p.n)
			l, o := wal.Open(d, p.from, p.n)
			if b != nil || e != p.want || l != nil || o != p.want {
				t.Errorf("P3.1: Look%s: %v %v; Open: %v %v", call, b, e, l, o)
			}
			stepped(t, "P3.1: what is refused"+call, d, steps)
			if i == 0 && !d.Same(was) {
				t.Errorf("P3.1: what is refused%s writes", call)
			}
		}
	}
}

// TestNoDisk: P3.1, P3.2: a disk that is not there, ahead of all else.
func TestNoDisk(t *testing.T) {
	for _, d := range []*disk.Disk{nil, new(disk.Disk)} {
		for _, p := range append(places, struct {
			from, n int
			want    api.Errno
		}{0, 1, 0}) {
			b, e := wal.Look(d, p.from, p.n)
			l, o := wal.Open(d, p.from, p.n)
			f := wal.Format(d, p.from, p.n)
			if b != nil || e != api.ErrNil || l != nil || o != api.ErrNil || f != api.ErrNil {
				t.Errorf("P3.1: no disk at %d, %d: %v %v, %v %v, %v", p.from, p.n, b, e, l, o, f)
			}
		}
	}
}

// TestNoughts: P3.1, P3.2: a disk that was never formatted has no log.
func TestNoughts(t *testing.T) {
	d := laid(t, 6)
	was := d.Copy()
	b, e := wal.Look(d, 0, 6)
	l, o := wal.Open(d, 0, 6)
	if b != nil || e != api.ErrBroken || l != nil || o != api.ErrBroken || !d.Same(was) {
		t.Errorf("P3.1: noughts: Look %v %v, Open %v %v", b, e, l, o)
	}
}

// TestFormat: P3.1: all sectors are written, as one, and synced, whatever was there.
func TestFormat(t *testing.T) {
	for _, p := range []struct{ from, n int }{{0, 4}, {0, 9}, {2, 6}, {5, 4}} {
		d := laid(t, 9, full('x', 9))
		wants(t, "P3.1: Format", wal.Format(d, p.from, p.n), api.OK)
		synced(t, "P3.1: Format", d, 4)
		want := full('x', 9)
		copy(want[p.from*sector:], make([]byte, p.n*sector))
		copy(want[(p.from+1)*sector:], headBytes(1, 1, 1))
		reads(t, "P3.1: Format", d, want)
		after, _ := d.Crash()
		reads(t, "P3.1: Format, behind a crash", after, want)
	}
	d := formatted(t, 6)
	l := opened(t, d)
	wants(t, "P3.3: Append", l.Append([]byte("abc")), api.OK)
	wants(t, "P3.1: Format of a log", wal.Format(d, 0, 6), api.OK)
	looks(t, "P3.1: Format of a log", d)
	state(t, "P3.1: Format of a log", opened(t, d), 0, 4*488-4, 2, false)
}

// TestFormatFails: P3.1, P3.4: each step of Format may fail.
func TestFormatFails(t *testing.T) {
	for step := range 2 {
		for keep := range 5 {
			d := laid(t, 4)
			d.Feed(late(step, keep)...)
			wants(t, "P3.1: Format of which a step fails", wal.Format(d, 0, 4), api.ErrDisk)
			stepped(t, "P3.1: Format of which a step fails", d, 2+step+1)
			wants(t, "P3.1: Format once more", wal.Format(d, 0, 4), api.OK)
			looks(t, "P3.1: Format once more", d)
		}
	}
}

// TestHeads: P3.1, P3.2: which heads are one, and which one is the log's: told by the batch of the run 6 that counts or not.
func TestHeads(t *testing.T) {
	const end = 1 << 62
	none := make([]byte, sector)
	batch := part(6, 0, 1, 0, 0, 0, 'b')
	for i, c := range []struct {
		first, second []byte
		want          string // the batch, nothing, or "broken"
		next          uint64 // the run that Open's log has; 0: ErrBroken
	}{
		{none, none, "broken", 0},
		{headBytes(6, 1, 6), none, "b", 7},
		{none, headBytes(7, 6, 7), "b", 8},
		{none, headBytes(7, 7, 7), "", 8},
		{headBytes(8, 8, 8), none, "", 9},
		{headBytes(8, 0, 8), none, "b", 9},
		{headBytes(8, 9, 8), none, "broken", 0},                                              // its base is above it
		{headBytes(8, math.MaxUint64, 8), none, "broken", 0},                                 // likewise
		{headBytes(8, 1, 6), none, "broken", 0},                                              // two runs
		{headBytes(8, 1, 0), none, "broken", 0},                                              // likewise
		{headBytes(8, 1, 8+1<<56), none, "broken", 0},                                        // likewise
		{headBytes(8+1<<56, 1, 8), none, "broken", 0},                                        // likewise
		{headBytes(0, 0, 0), headBytes(0, 0, 0), "broken", 0},                                // no run
		{headBytes(7, 1, 7), none, "broken", 0},                                              // the wrong sector
		{none, headBytes(8, 1, 8), "broken", 0},                                              // likewise
		{headBytes(7, 1, 7), headBytes(8, 1, 8), "broken", 0},                                // likewise
		{headBytes(9, 9, 9), headBytes(7, 1, 7), "b", 8},                                     // likewise
		{headBytes(8, 1, 8), headBytes(7, 7, 7), "b", 9},                                     // the greater run
		{headBytes(8, 8, 8), headBytes(7, 1, 7), "", 9},                                      // likewise
		{headBytes(8, 8, 8), headBytes(9, 1, 9), "b", 10},                                    // likewise
		{headBytes(8, 1, 8), headBytes(9, 9, 9), "", 10},                                     // likewise
		{headBytes(10, 10, 8), headBytes(7, 1, 7), "b", 8},                                   // the other one is none
		{headBytes(6, 1, 6), headBytes(9, 9, 7), "b", 7},                                     // likewise
		{headBytes(4, 1, 4), none, "broken", 0},                                              // the body begins with a greater run
		{headBytes(4, 1, 4), headBytes(5, 1, 5), "broken", 0},                                // likewise
		{headBytes(end, 1, end), none, "broken", 0},                                          // too great
		{headBytes(end, 1, end), headBytes(7, 1, 7), "b", 8},                                 // likewise
		{headBytes(end+2, 1, end+2), headBytes(7, 1, 7), "b", 8},                             // likewise
		{headBytes(6, 1, 6), headBytes(math.MaxUint64, 1, math.MaxUint64), "b", 7},           // likewise
		{none, headBytes(end-1, 6, end-1), "b", 0},                                           // no next run
		{headBytes(end-2, 6, end-2), headBytes(end-3, 7, end-3), "b", end - 1},               // the last one
		{with(headBytes(8, 1, 8), 16, 'x', 'y'), with(headBytes(7, 7, 7), 503, 'z'), "b", 9}, // the bytes between are not asked
		{headBytes(1<<32+8, 6, 1<<32+8), headBytes(7, 7, 7), "b", 1<<32 + 9},                 // all 8 bytes are the run
		{headBytes(1<<32+6, 1<<32+6, 1<<32+6), headBytes(7, 1, 7), "", 1<<32 + 7},            // and the base
		{with(headBytes(7, 1, 7), 0, 8), with(headBytes(8, 1, 8), 504, 9), "broken", 0},      // none of them
		{headBytes(8, 6, 8), with(headBytes(9, 9, 9), 511, 1), "b", 9},                       // the last byte counts
		{with(headBytes(8, 8, 8), 504, 0), with(headBytes(9, 6, 9), 8, 6, 0, 0, 0), "b", 10}, // the first one of them
		{headBytes(6, 6, 6), headBytes(5, 5, 5), "b", 7},                                     // the base itself counts
		{headBytes(6, 6, 6), headBytes(1, 1, 1), "b", 7},                                     // a head of long ago
		{headBytes(8, 7, 8), headBytes(7, 7, 7), "", 9},                                      // a run below the base
		{headBytes(8, 7, 8), with(part(9, 0), 0), "", 9},                                     // no head, but a sector of a body
		{part(10, 0), headBytes(7, 1, 7), "b", 8},                                            // likewise
		{headBytes(8, 8, 8), full(0xFF, 1), "", 9},                                           // a run too great
		{full('x', 1), full('x', 1), "broken", 0},                                            // two that are too great
		{full(1, 1), full(1, 1), "", 0x0101010101010102},                                     // just some bytes that are one: its base is its run
		{headBytes(0x0100, 6, 0x0100), headBytes(0xFF, 7, 0xFF), "b", 0x0101},                // the lowest byte first
		{with(none, 0, 0, 1), headBytes(7, 1, 7), "b", 8},                                    // its begin alone
		{with(none, 504, 8), with(none, 504, 7), "broken", 0},                                // their ends alone
		{headBytes(8, 1, 8), headBytes(8, 8, 8), "b", 9},                                     // two of one run: one is in the wrong sector
		{headBytes(7, 1, 7), headBytes(7, 7, 7), "", 8},                                      // likewise
	} {
		d := laid(t, 4, c.first, c.second, batch)
		was, steps := d.Copy(), 2
		var want [][]byte
		e := api.OK
		switch c.want {
		case "broken":
			e = api.ErrBroken
		case "b":
			want = [][]byte{[]byte("b")}
		}
		if got, l := wal.Look(d, 0, 4); short(got) != short(want) || l != e {
			t.Errorf("P3.1: heads %d: Look: %q (%v), not %q (%v)", i, short(got), l, short(want), e)
		}
		stepped(t, "P3.1: Look", d, steps)
		l, e := wal.Open(d, 0, 4)
		if c.next == 0 {
			if l != nil || e != api.ErrBroken || !d.Same(was) {
				t.Errorf("P3.2: heads %d: Open: %v %v", i, l, e)
			}
			stepped(t, "P3.2: Open that is refused", d, steps)
			continue
		}
		if l == nil || e != api.OK {
			t.Errorf("P3.2: heads %d: Open: %v", i, e)
			continue
		}
		if _, _, run, _ := l.State(); run != c.next || short(collected(t, l.Batches())) != short(want) {
			t.Errorf("P3.2: heads %d: run %d, batches %v", i, run, short(collected(t, l.Batches())))
		}
	}
}

// TestBodies: P3.1: which sectors of the body count, and what the log's batches are. The head's run is 9, its base 5.
func TestBodies(t *testing.T) {
	one := func(run uint64, place uint32, by byte) []byte { return part(run, place, 1, 0, 0, 0, by) }
	x485 := strings.Repeat("x", 485)
	two := parts(7, 0, []byte(x485))
	for i, c := range []struct {
		body []byte
		want []string
	}{
		{nil, nil},
		{one(9, 0, 'a'), []string{"a"}},
		{one(5, 0, 'a'), []string{"a"}},
		{one(4, 0, 'a'), nil},                            // below the base
		{one(7, 1, 'a'), nil},                            // the wrong place
		{with(one(7, 0, 'a'), 8, 1), nil},                // two places
		{with(one(7, 0, 'a'), 11, 1), nil},               // likewise
		{with(one(7, 0, 'a'), 508, 1), nil},              // likewise
		{with(one(7, 0, 'a'), 511, 1), nil},              // likewise
		{with(one(7, 0, 'a'), 500, 6), nil},              // two runs
		{with(one(7, 0, 'a'), 0, 6), nil},                // likewise
		{with(one(7, 0, 'a'), 507, 6), nil},              // likewise
		{with(one(7, 0, 'a'), 500, 10), nil},             // it ends with one above the head's
		{with(one(7, 0, 'a'), 507, 255), nil},            // likewise
		{with(one(7, 0, 'a'), 499, 'x'), []string{"a"}},  // bytes behind the batch are not asked
		{with(one(7, 0, 'a'), 17, 'x'), []string{"a"}},   // likewise
		{with(one(7, 0, 'a'), 12, 2), []string{"a\x00"}}, // the length is the lowest byte first
		{part(7, 0), []string{""}},
		{part(7, 0, long(484, 484, 'x')...), []string{x485[:484]}},
		{part(7, 0, long(485, 484, 'x')...), nil}, // one byte is not there
		{two, []string{x485}},
		{two[:sector], nil},
		{two[sector:], nil},
		{slices.Concat(two[:sector], part(8, 1, 'x')), nil},               // another run, above it
		{slices.Concat(two[:sector], part(6, 1, 'x')), nil},               // below it
		{slices.Concat(two[:sector], part(7, 2, 'x')), nil},               // the wrong place
		{slices.Concat(two[:sector], with(part(7, 1, 'x'), 500, 8)), nil}, // torn
		{slices.Concat(one(7, 0, 'a'), one(7, 1, 'b'), one(7, 2, 'c'), one(7, 3, 'd')), []string{"a", "b", "c", "d"}},
		{slices.Concat(one(5, 0, 'a'), one(6, 1, 'b'), one(8, 2, 'c'), one(9, 3, 'd')), []string{"a", "b", "c", "d"}}, // runs rise
		{slices.Concat(one(7, 0, 'a'), one(6, 1, 'b'), one(7, 2, 'c')), []string{"a"}},                                // one falls
		{slices.Concat(one(7, 0, 'a'), one(8, 1, 'b'), one(7, 2, 'c')), []string{"a", "b"}},                           // below that of the one ahead, not of the first
		{slices.Concat(one(7, 0, 'a'), with(one(7, 1, 'b'), 500, 6), one(7, 2, 'c')), []string{"a"}},                  // none behind what does not count
		{slices.Concat(one(4, 0, 'a'), one(7, 1, 'b')), nil},                                                          // likewise
		{slices.Concat(make([]byte, sector), one(7, 1, 'b')), nil},                                                    // likewise
		{slices.Concat(two, one(7, 2, 'b')), []string{x485, "b"}},
		{slices.Concat(two, one(6, 2, 'b')), []string{x485}},
		{slices.Concat(one(7, 0, 'a'), parts(7, 1, []byte(x485)), one(8, 3, 'b')), []string{"a", x485, "b"}},
		{slices.Concat(one(7, 0, 'a'), parts(6, 1, []byte(x485))), []string{"a"}},
		{parts(7, 0, make([]byte, 4*488-4)), []string{string(make([]byte, 4*488-4))}}, // all of the body
		{parts(7, 0, make([]byte, 4*488-3))[:4*sector], nil},                          // more than that
		{slices.Concat(one(7, 0, 'a'), parts(7, 1, make([]byte, 3*488-3))[:3*sector]), []string{"a"}},
		{part(7, 0, 255, 255, 255, 255, 'x'), nil},                           // a length that no body has
		{slices.Concat(part(7, 0, 255, 255, 255, 255), one(7, 1, 'b')), nil}, // likewise
		{slices.Concat(part(7, 0, 252, 255, 255, 255), one(7, 1, 'b')), nil}, // and 4 bytes more are 2^32
		{slices.Concat(part(7, 0, 0, 0, 0, 1), one(7, 1, 'b')), nil},
		{slices.Concat(one(7, 0, 'a'), part(7, 1), part(7, 2), one(7, 3, 'd')), []string{"a", "", "", "d"}}, // batches of no bytes
		{slices.Concat(part(7, 0, long(972, 484, 'x')...), part(7, 1, full('x', 1)...)), []string{strings.Repeat("x", 972)}},
		{slices.Concat(part(7, 0, long(973, 484, 'x')...), part(7, 1, full('x', 1)...)), nil},
	} {
		d := laid(t, 6, make([]byte, sector), headBytes(9, 5, 9), c.body)
		steps, _ := d.Steps()
		if got, e := wal.Look(d, 0, 6); !same(got, c.want) || e != api.OK {
			t.Errorf("P3.1: body %d: Look: %q (%v), not %.100q", i, short(got), e, c.want)
		}
		stepped(t, "P3.1: Look", d, steps)
		if l, e := wal.Open(d, 0, 6); e != api.OK || !same(collected(t, l.Batches()), c.want) {
			t.Errorf("P3.2: body %d: Open: %v", i, e)
		}
	}
}

// TestBaseNought: P3.1: a head may have the base 0: then noughts count, at the body's begin.
func TestBaseNought(t *testing.T) {
	d := laid(t, 5, headBytes(2, 0, 2))
	looks(t, "P3.1: base 0", d, "")
	state(t, "P3.2: base 0", opened(t, d), 1, 2*488-4, 3, false)
}

// TestGreaterRuns: P3.1, P3.2: a sector of the body that begins with a run above the head's, wherever it is and whatever it has else.
func TestGreaterRuns(t *testing.T) {
	for place := range uint32(4) {
		for _, s := range [][]byte{
			part(10, place), part(10, 9), with(part(10, place), 500, 9), with(make([]byte, sector), 0, 10),
			part(math.MaxUint64, place), with(make([]byte, sector), 7, 1), full('x', 1), headBytes(10, 1, 10),
		} {
			b := make([]byte, 4*sector)
			copy(b, part(7, 0))
			copy(b[place*sector:], s)
			d := laid(t, 7, make([]byte, sector), headBytes(9, 5, 9), b, full('x', 1))
			was := d.Copy()
			got, e := wal.Look(d, 0, 6)
			l, o := wal.Open(d, 0, 6)
			if got != nil || e != api.ErrBroken || l != nil || o != api.ErrBroken || !d.Same(was) {
				t.Errorf("P3.1: place %d, %v: Look: %v %v, Open: %v %v", place, s[:9], got, e, l, o)
			}
			copy(b[place*sector:], with(part(9, place), 500, 10)) // it is what it begins with that is asked
			d = laid(t, 7, make([]byte, sector), headBytes(9, 5, 9), b, full('x', 1))
			if _, e := wal.Look(d, 0, 6); e != api.OK {
				t.Errorf("P3.1: place %d: Look: %v", place, e)
			}
		}
	}
}

// TestLook: P3.1: Look tells the batches as the disk is read, synced or not, and writes nothing.
func TestLook(t *testing.T) {
	d := formatted(t, 6)
	l := opened(t, d)
	l.Append([]byte("a"))
	d.Feed(late(1, 0)...)
	wants(t, "P3.4: Append", l.Append([]byte("b")), api.ErrDisk)
	was := d.Copy()
	looks(t, "P3.1: what is not synced", d, "a", "b")
	steps, _ := was.Steps()
	stepped(t, "P3.1: Look", d, steps)
	if !d.Same(was) {
		t.Errorf("P3.1: Look writes")
	}
	after, _ := d.Crash()
	looks(t, "P3.1: what was lost", after, "a")
	one, _ := wal.Look(d, 0, 6)
	two, _ := wal.Look(d, 0, 6)
	clear(one[0][:cap(one[0])])
	one[1] = nil
	if !same(two, []string{"a", "b"}) {
		t.Errorf("P3.1: two answers share: %q", short(two))
	}
	_ = append(two[0], "changed"...)
	if !same(two, []string{"a", "b"}) {
		t.Errorf("P3.1: two batches share: %q", short(two))
	}
}

// TestOpen: P3.2: a head of the next run, with the same base, is written, and synced; nothing else is.
func TestOpen(t *testing.T) {
	d := laid(t, 8, full('x', 8))
	wants(t, "P3.1: Format", wal.Format(d, 1, 6), api.OK)
	want := [][]byte{full('x', 1), make([]byte, sector), headBytes(1, 1, 1), make([]byte, 4*sector), full('x', 1)}
	for run := uint64(2); run < 300; run++ {
		steps, _ := d.Steps()
		l, e := wal.Open(d, 1, 6)
		if e != api.OK {
			t.Fatalf("P3.2: Open: %v", e)
		}
		want[1+run%2] = headBytes(run, 1, run)
		reads(t, "P3.2: Open", d, want...)
		synced(t, "P3.2: Open", d, steps+2)
		state(t, "P3.2: Open", l, 0, 4*488-4, run, false)
	}
	l, _ := wal.Open(d, 1, 6)
	l.Append([]byte("a"))
	l.Reset()
	l.Append([]byte("b"))
	l, e := wal.Open(d, 1, 6)
	wants(t, "P3.2: Open", e, api.OK)
	has(t, "P3.2: Open", l, "b")
	want[1], want[2] = headBytes(302, 301, 302), headBytes(301, 301, 301)
	want[3] = slices.Concat(parts(301, 0, []byte("b")), make([]byte, 3*sector))
	reads(t, "P3.2: Open behind a Reset", d, want...)
}

// TestOpenFails: P3.2, P3.4: each step of Open may fail.
func TestOpenFails(t *testing.T) {
	for step := range 2 {
		for keep := range 3 {
			d := formatted(t, 6)
			opened(t, d).Append([]byte("a"))
			was, _ := d.Steps()
			d.Feed(late(step, keep)...)
			if l, e := wal.Open(d, 0, 6); l != nil || e != api.ErrDisk {
				t.Errorf("P3.2: Open of which step %d fails: %v %v", step, l, e)
			}
			stepped(t, "P3.2: Open of which a step fails", d, was+step+1)
			looks(t, "P3.2: Open of which a step fails", d, "a")
			has(t, "P3.2: Open once more", opened(t, d), "a")
		}
	}
}

// TestBatches: P3.2: Batches goes over them as they are when it is called; it may be left, and gone through again.
func TestBatches(t *testing.T) {
	d := formatted(t, 9)
	l := opened(t, d)
	none := l.Batches()
	for _, b := range []string{"a", "", "ccc"} {
		l.Append([]byte(b))
	}
	three := l.Batches()
	l.Append([]byte("d"))
	l.Reset()
	l.Append([]byte("e"))
	want := []string{"a", "", "ccc"}
	for range 2 {
		if got := collected(t, three); !same(got, want) {
			t.Errorf("P3.2: Batches: %q", short(got))
		}
		if got := collected(t, none); len(got) > 0 {
			t.Errorf("P3.2: Batches of none: %q", short(got))
		}
		for i, b := range three { // left, and gone through within itself
			if i == 1 {
				break
			}
			inner := collected(t, three)
			clear(b[:cap(b)])
			clear(inner[2])
			_ = append(inner[1], "changed"...)
		}
	}
	has(t, "P3.2: Batches", l, "e")
	for range l.Batches() { // what is done meanwhile
		l.Append([]byte("f"))
	}
	has(t, "P3.2: Batches", l, "e", "f")
}

// TestAppend: P3.3: the bytes of batches, and what is answered.
func TestAppend(t *testing.T) {
	d := laid(t, 12, full('x', 12))
	wal.Format(d, 1, 10)
	l, _ := wal.Open(d, 1, 10)
	want := [][]byte{full('x', 1), headBytes(2, 1, 2), headBytes(1, 1, 1)}
	place, told := 0, []string{}
	for i, n := range []int{0, 1, 484, 485, 972, 3} {
		b := bytes.Repeat([]byte{'a' + byte(i)}, n)
		steps, _ := d.Steps()
		wants(t, "P3.3: Append", l.Append(b), api.OK)
		synced(t, "P3.3: Append", d, steps+2)
		sectors := parts(2, uint32(place), b)
		want, place, told = append(want, sectors), place+len(sectors)/sector, append(told, string(b))
		reads(t, "P3.3: Append", d, append(slices.Clone(want), make([]byte, (8-place)*sector), full('x', 1))...)
		has(t, "P3.3: Append", l, told...)
		state(t, "P3.3: Append", l, i+1, max(0, (8-place)*488-4), 2, false)
	}
	l, e := wal.Open(d, 1, 10)
	wants(t, "P3.2: Open", e, api.OK)
	has(t, "P3.2: Open of all", l, told...)
	state(t, "P3.2: Open of all", l, 6, 0, 3, false)
	wants(t, "P3.3: Append to a full log", l.Append(nil), api.ErrFull)
	wants(t, "P3.3: Append to a full log", l.Append([]byte("x")), api.ErrFull)
	if l.Append(nil) != api.ErrFull || l.Reset() != api.OK || l.Append(make([]byte, 8*488-4)) != api.OK {
		t.Errorf("P3.3: a full log that is emptied")
	}
}

// TestRoom: P3.3: a batch that just has room, and one that just has none, which changes nothing.
func TestRoom(t *testing.T) {
	for n := 4; n <= 7; n++ {
		for used := range n - 1 {
			d := formatted(t, n)
			l := opened(t, d)
			for range used {
				wants(t, "P3.3: Append", l.Append([]byte("a")), api.OK)
			}
			room := (n-2-used)*488 - 4
			state(t, "P3.2: State", l, used, max(0, room), 2, false)
			was := d.Copy()
			for _, b := range []int{room + 1, room + 484, room + 488, room + 489, 1 << 20} {
				wants(t, "P3.3: Append of "+strconv.Itoa(b), l.Append(make([]byte, max(0, b))), api.ErrFull)
			}
			steps, _ := was.Steps()
			stepped(t, "P3.3: Append that is refused", d, steps)
			state(t, "P3.3: Append that is refused", l, used, max(0, room), 2, false)
			if !d.Same(was) {
				t.Errorf("P3.3: what is refused writes")
			}
			if room >= 0 {
				wants(t, "P3.3: Append of "+strconv.Itoa(room), l.Append(make([]byte, room)), api.OK)
				state(t, "P3.3: Append of all", l, used+1, 0, 2, false)
				wants(t, "P3.3: Append of none", l.Append(nil), api.ErrFull)
			}
		}
	}
}

// TestAppendBehind: P3.3: a log that is opened again goes on behind its last batch, with its own run, over what is there.
func TestAppendBehind(t *testing.T) {
	d := laid(t, 6, make([]byte, sector), headBytes(9, 5, 9), parts(7, 0, make([]byte, 485)), part(6, 2, 'x'), part(9, 3, 'y'))
	l := opened(t, d)
	state(t, "P3.2: Open", l, 1, 2*488-4, 10, false)
	wants(t, "P3.3: Append", l.Append([]byte("a")), api.OK)
	reads(t, "P3.3: Append", d, headBytes(10, 5, 10), headBytes(9, 5, 9), parts(7, 0, make([]byte, 485)),
		part(10, 2, 1, 0, 0, 0, 'a'), part(9, 3, 'y'))
	looks(t, "P3.3: Append", d, string(make([]byte, 485)), "a")
	wants(t, "P3.3: Append", l.Append([]byte("b")), api.OK)
	looks(t, "P3.3: Append", d, string(make([]byte, 485)), "a", "b")
}

// TestReset: P3.3: there are no batches any more, behind the next opening, too.
func TestReset(t *testing.T) {
	d := formatted(t, 6)
	l := opened(t, d)
	l.Append([]byte("a"))
	l.Append([]byte("b"))
	steps, _ := d.Steps()
	wants(t, "P3.3: Reset", l.Reset(), api.OK)
	synced(t, "P3.3: Reset", d, steps+2)
	reads(t, "P3.3: Reset", d, headBytes(2, 1, 2), headBytes(3, 3, 3),
		part(2, 0, 1, 0, 0, 0, 'a'), part(2, 1, 1, 0, 0, 0, 'b'), make([]byte, 2*sector))
	has(t, "P3.3: Reset", l)
	looks(t, "P3.3: Reset", d)
	state(t, "P3.3: Reset", l, 0, 4*488-4, 3, false)
	wants(t, "P3.3: Reset of none", l.Reset(), api.OK)
	state(t, "P3.3: Reset of none", l, 0, 4*488-4, 4, false)
	wants(t, "P3.3: Append behind a Reset", l.Append([]byte("c")), api.OK)
	reads(t, "P3.3: Reset", d, headBytes(4, 4, 4), headBytes(3, 3, 3),
		part(4, 0, 1, 0, 0, 0, 'c'), part(2, 1, 1, 0, 0, 0, 'b'), make([]byte, 2*sector))
	looks(t, "P3.3: Append behind a Reset", d, "c")
	has(t, "P3.3: Append behind a Reset", l, "c")
	has(t, "P3.3: Append behind a Reset", opened(t, d), "c")
}

// TestFails: P3.4: a step of Append or Reset that fails: ErrDisk, then ErrDead; the batches are those ahead of that call.
func TestFails(t *testing.T) {
	for _, call := range []struct {
		name string
		do   func(l *wal.Log) api.Errno
	}{
		{"Append", func(l *wal.Log) api.Errno { return l.Append(make([]byte, 500)) }},
		{"Append of none", func(l *wal.Log) api.Errno { return l.Append(nil) }},
		{"Reset", func(l *wal.Log) api.Errno { return l.Reset() }},
	} {
		for step := range 2 {
			for keep := -1; keep < 4; keep++ {
				d := formatted(t, 8)
				l := opened(t, d)
				l.Append([]byte("a"))
				l.Append([]byte("b"))
				was, _ := d.Steps()
				d.Feed(late(step, keep)...)
				wants(t, "P3.4: "+call.name, call.do(l), api.ErrDisk)
				for range 2 {
					stepped(t, "P3.4: "+call.name, d, was+step+1)
					has(t, "P3.4: "+call.name, l, "a", "b")
					state(t, "P3.4: "+call.name, l, 2, 4*488-4, 2, true)
					wants(t, "P3.4: Append of a dead log", l.Append([]byte("c")), api.ErrDead)
					wants(t, "P3.4: Append of a dead log", l.Append(nil), api.ErrDead)
					wants(t, "P3.4: Append of a dead log", l.Append(make([]byte, 1<<16)), api.ErrDead)
					wants(t, "P3.4: Reset of a dead log", l.Reset(), api.ErrDead)
				}
			}
		}
	}
}

// TestNone: a nil log, and a zero one.
func TestNone(t *testing.T) {
	for _, l := range []*wal.Log{nil, new(wal.Log)} {
		wants(t, "P3.3: Append of none", l.Append([]byte("a")), api.ErrNil)
		wants(t, "P3.3: Append of none", l.Append(nil), api.ErrNil)
		wants(t, "P3.3: Append of none", l.Append(make([]byte, 1<<16)), api.ErrNil)
		wants(t, "P3.3: Reset of none", l.Reset(), api.ErrNil)
		has(t, "P3.2: Batches of none", l)
		state(t, "P3.2: State of none", l, 0, 0, 0, false)
	}
}

// TestHandedIn: what is handed in is not changed, the room behind it included, and not kept.
func TestHandedIn(t *testing.T) {
	d := formatted(t, 6)
	l := opened(t, d)
	room := []byte("abc, and room behind")
	wants(t, "P3.3: Append", l.Append(room[:3]), api.OK)
	if string(room) != "abc, and room behind" {
		t.Errorf("Append changes what was handed in: %q", room)
	}
	clear(room)
	has(t, "Append keeps what was handed in", l, "abc")
	looks(t, "Append keeps what was handed in", d, "abc")
}

// TestApart: two logs on one disk have nothing in common.
func TestApart(t *testing.T) {
	d := laid(t, 9)
	wants(t, "P3.1: Format", wal.Format(d, 0, 4), api.OK)
	wants(t, "P3.1: Format", wal.Format(d, 4, 5), api.OK)
	a, _ := wal.Open(d, 0, 4)
	b, _ := wal.Open(d, 4, 5)
	a.Append([]byte("a"))
	b.Append([]byte("b"))
	a.Append([]byte("c"))
	b.Reset()
	has(t, "two logs", a, "a", "c")
	has(t, "two logs", b)
	if got, e := wal.Look(d, 0, 4); !same(got, []string{"a", "c"}) || e != api.OK {
		t.Errorf("two logs: %q (%v)", short(got), e)
	}
}

// TestLarge: P3.1 to P3.3: a log that is a disk of the greatest size has its places in more than a byte.
func TestLarge(t *testing.T) {
	const n = 1 << 16
	d := formatted(t, n)
	l := opened(t, d)
	room := (n-2)*488 - 4
	state(t, "P3.2: State of a great log", l, 0, room, 2, false)
	b := bytes.Repeat([]byte("0123456789abcdef!"), room/17)
	wants(t, "P3.3: Append of much", l.Append(b), api.OK)
	looks(t, "P3.3: Append of much", d, string(b))
	last, _ := d.Read(2+65500, 1)
	if !bytes.Equal(last, part(2, 65500, b[65500*488-4:][:488]...)) {
		t.Errorf("P3.3: sector 65500 is %v", last)
	}
}
