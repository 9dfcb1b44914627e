package disk_test

import (
	"bytes"
	"iter"
	"math"
	"slices"
	"strconv"
	"testing"

	"lexicon/api"
	"lexicon/disk"
)

const sector = api.Sector

var (
	good    = api.Fate{Kind: api.FateGood}
	goodOne = api.Fate{Kind: api.FateGood, Keep: 1}
)

// fail is the fate of a step of which so many pieces go well all the same.
func fail(keep int) api.Fate { return api.Fate{Kind: api.FateFail, Keep: keep} }

// full is n sectors of one byte.
func full(by byte, n int) []byte { return bytes.Repeat([]byte{by}, sector*n) }

// each is a sector of each of these bytes.
func each(by string) []byte {
	var b []byte
	for i := range len(by) {
		b = append(b, full(by[i], 1)...)
	}
	return b
}

// torn is a sector whose first n bytes are one, and the rest another one.
func torn(first byte, n int, rest byte) []byte {
	return append(bytes.Repeat([]byte{first}, n), bytes.Repeat([]byte{rest}, sector-n)...)
}

// made is a disk that has to be.
func made(t *testing.T, sectors int, fates ...api.Fate) *disk.Disk {
	t.Helper()
	d, e := disk.New(sectors, fates...)
	if d == nil || e != api.OK {
		t.Fatalf("P2.1: New(%d, %v): %v", sectors, fates, e)
	}
	return d
}

// wants holds what a call answered against what it has to.
func wants(t *testing.T, call string, got, want api.Errno) {
	t.Helper()
	if got != want {
		t.Errorf("%s: %v, not %v", call, got, want)
	}
}

// reads holds all that is read against what it has to be.
func reads(t *testing.T, call string, d *disk.Disk, want []byte) {
	t.Helper()
	if got := whole(t, d); !bytes.Equal(got, want) {
		t.Errorf("%s: reads %s, not %s", call, told(got), told(want))
	}
}

// whole is all that is read.
func whole(t *testing.T, d *disk.Disk) []byte {
	t.Helper()
	b, e := d.Read(0, d.Size())
	if e != api.OK {
		t.Fatalf("P2.2: Read(0, %d): %v", d.Size(), e)
	}
	return b
}

// told is bytes shortened: each run of one byte within a sector is told by its first.
func told(b []byte) string {
	var s []byte
	for i, x := range b {
		if i%sector == 0 || x != b[i-1] {
			s = append(s, x)
		}
	}
	return strconv.Quote(string(s[:min(len(s), 100)]))
}

// pieces holds the pieces' sectors against what they have to be.
func pieces(t *testing.T, call string, d *disk.Disk, want ...int) {
	t.Helper()
	if got := slices.Collect(d.Pieces()); !slices.Equal(got, want) {
		t.Errorf("%s: pieces %v, not %v", call, got, want)
	}
}

// steps holds Steps against what it has to tell.
func steps(t *testing.T, call string, d *disk.Disk, done, left int) {
	t.Helper()
	if n, m := d.Steps(); n != done || m != left {
		t.Errorf("%s: steps %d, left %d, not %d, %d", call, n, m, done, left)
	}
}

// crashed is what a crash that has to go leaves.
func crashed(t *testing.T, d *disk.Disk, picks ...int) *disk.Disk {
	t.Helper()
	c, e := d.Crash(picks...)
	if c == nil || e != api.OK {
		t.Fatalf("P2.4: Crash(%v): %v", picks, e)
	}
	return c
}

// TestNewSizes: P2.1, which sizes may be, and what there is at first.
func TestNewSizes(t *testing.T) {
	for _, n := range []int{0, -1, math.MinInt, 1<<16 + 1, 1 << 17, 1 << 32, math.MaxInt} {
		if d, e := disk.New(n); d != nil || e != api.ErrArg {
			t.Errorf("P2.1: New(%d): %v %v", n, d, e)
		}
	}
	for _, n := range []int{1, 2, 4, 1<<16 - 1, 1 << 16} {
		d := made(t, n)
		if d.Size() != n {
			t.Errorf("P2.1: New(%d): Size %d", n, d.Size())
		}
		reads(t, "P2.1: New", d, full(0, n))
		pieces(t, "P2.1: New", d)
		steps(t, "P2.1: New", d, 0, 0)
		wants(t, "P2.2: Write of the last sector", d.Write(n-1, full('x', 1)), api.OK)
		wants(t, "P2.2: Write behind the last sector", d.Write(n, full('x', 1)), api.ErrRange)
		if b, e := d.Read(n-1, 1); !bytes.Equal(b, full('x', 1)) || e != api.OK {
			t.Errorf("P2.2: Read(%d, 1) of %d sectors: %v", n-1, n, e)
		}
	}
}

// TestFateKinds: P2.1, fates of no kind are refused, wherever they stand, and all those beside them.
func TestFateKinds(t *testing.T) {
	d := made(t, 1, fail(0))
	for _, kind := range []api.FateKind{-1, 2, 3, math.MinInt, math.MaxInt} {
		bad := api.Fate{Kind: kind}
		for _, l := range [][]api.Fate{{bad}, {bad, good}, {good, fail(1), bad}, {good, bad, good}} {
			if d, e := disk.New(1, l...); d != nil || e != api.ErrArg {
				t.Errorf("P2.1: New(1, %v): %v %v", l, d, e)
			}
			if d, e := disk.New(0, l...); d != nil || e != api.ErrArg {
				t.Errorf("P2.1: New(0, %v): %v %v", l, d, e)
			}
			wants(t, "P2.1: Feed of no kind", d.Feed(l...), api.ErrArg)
			steps(t, "P2.5: Feed that is refused", d, 0, 1)
		}
	}
	for _, l := range [][]api.Fate{nil, {}, {good}, {fail(math.MinInt), fail(math.MaxInt)}, {{Keep: -1}, {Keep: 99}}} {
		wants(t, "P2.1: Feed", made(t, 1).Feed(l...), api.OK)
		steps(t, "P2.1: New with fates", made(t, 1, l...), 0, len(l))
	}
}

// TestFatesInOrder: P2.1, one fate a step, those that are fed behind those that were; behind all of them each is good.
func TestFatesInOrder(t *testing.T) {
	d := made(t, 2, good, fail(0))
	wants(t, "P2.1: Feed", d.Feed(fail(0), goodOne), api.OK)
	wants(t, "P2.1: Feed of none", d.Feed(), api.OK)
	wants(t, "P2.1: Feed", d.Feed(fail(0)), api.OK)
	for i, want := range []api.Errno{api.OK, api.ErrDisk, api.ErrDisk, api.OK, api.ErrDisk, api.OK, api.OK} {
		steps(t, "P2.1: Steps", d, i, max(5-i, 0))
		if i%2 == 0 {
			wants(t, "P2.1: Write by its fate", d.Write(0, full('x', 1)), want)
		} else {
			wants(t, "P2.1: Sync by its fate", d.Sync(), want)
		}
	}
	wants(t, "P2.1: Feed behind all", d.Feed(fail(0)), api.OK)
	steps(t, "P2.1: Steps", d, 7, 1)
	wants(t, "P2.1: Sync by its fate", d.Sync(), api.ErrDisk)
}

// TestGoodKeep: a good step is done whole, whatever its fate's Keep says.
func TestGoodKeep(t *testing.T) {
	for _, keep := range []int{math.MinInt, -1, 0, 1, 2, math.MaxInt} {
		f := api.Fate{Kind: api.FateGood, Keep: keep}
		d := made(t, 3, f, f)
		wants(t, "P2.2: Write that is good", d.Write(0, each("abc")), api.OK)
		pieces(t, "P2.2: Write that is good", d, 0, 1, 2)
		wants(t, "P2.3: Sync that is good", d.Sync(), api.OK)
		pieces(t, "P2.3: Sync that is good", d)
		reads(t, "P2.3: Crash behind a Sync", crashed(t, d), each("abc"))
	}
}

// TestWriteArgs: P2.2, what is refused, and in which order; P2.5: it takes no fate, and changes nothing.
func TestWriteArgs(t *testing.T) {
	d := made(t, 4)
	d.Write(0, each("abcd"))
	d.Feed(fail(9))
	for _, c := range []struct {
		at, bytes int
		want      api.Errno
	}{
		{0, 1, api.ErrArg},
		{0, 3, api.ErrArg},
		{0, 511, api.ErrArg},
		{0, 513, api.ErrArg},
		{0, 1023, api.ErrArg},
		{-1, 3, api.ErrArg}, // ahead of the place
		{5, 511, api.ErrArg},
		{math.MaxInt, 513, api.ErrArg},
		{0, 6*sector + 1, api.ErrArg},
		{-1, 0, api.ErrRange},
		{-1, sector, api.ErrRange},
		{math.MinInt, 0, api.ErrRange},
		{math.MinInt, sector, api.ErrRange},
		{5, 0, api.ErrRange},
		{4, sector, api.ErrRange},
		{3, 2 * sector, api.ErrRange},
		{1, 4 * sector, api.ErrRange},
		{0, 5 * sector, api.ErrRange},
		{math.MaxInt, 0, api.ErrRange},
		{math.MaxInt, sector, api.ErrRange},
		{math.MaxInt - 1, 4 * sector, api.ErrRange},
	} {
		was := d.Copy()
		if e := d.Write(c.at, make([]byte, c.bytes)); e != c.want {
			t.Errorf("P2.2: Write(%d, %d bytes): %v, not %v", c.at, c.bytes, e, c.want)
		}
		if !d.Same(was) {
			t.Errorf("P2.5: Write(%d, %d bytes) is refused, and changes something", c.at, c.bytes)
		}
		reads(t, "P2.5: Write that is refused", d, each("abcd"))
		steps(t, "P2.5: Write that is refused", d, 1, 1)
	}
}

// TestWriteNone: P2.2, no bytes are a step like others, also at the end.
func TestWriteNone(t *testing.T) {
	for at := range 5 {
		for _, none := range [][]byte{nil, {}} {
			d := made(t, 4, good, fail(3))
			wants(t, "P2.2: Write of none", d.Write(at, none), api.OK)
			wants(t, "P2.2: Write of none that fails", d.Write(at, none), api.ErrDisk)
			steps(t, "P2.2: Write of none", d, 2, 0)
			pieces(t, "P2.2: Write of none", d)
			reads(t, "P2.2: Write of none", d, full(0, 4))
		}
	}
}

// TestWrite: P2.2, each 512 bytes are a piece, in order; what is read are a sector's last piece's.
func TestWrite(t *testing.T) {
	d := made(t, 5)
	wants(t, "P2.2: Write", d.Write(1, each("abc")), api.OK)
	pieces(t, "P2.2: Write", d, 1, 2, 3)
	reads(t, "P2.2: Write", d, each("\x00abc\x00"))
	wants(t, "P2.2: Write", d.Write(0, each("xy")), api.OK)
	pieces(t, "P2.2: Write over another", d, 1, 2, 3, 0, 1)
	reads(t, "P2.2: Write over another", d, each("xybc\x00"))
	wants(t, "P2.2: Write", d.Write(0, each("01234")), api.OK)
	pieces(t, "P2.2: Write of all", d, 1, 2, 3, 0, 1, 0, 1, 2, 3, 4)
	reads(t, "P2.2: Write of all", d, each("01234"))
	b := make([]byte, 2*sector)
	for i := range b {
		b[i] = byte(i / 3)
	}
	wants(t, "P2.2: Write", d.Write(3, b), api.OK)
	if got, e := d.Read(3, 2); !bytes.Equal(got, b) || e != api.OK {
		t.Errorf("P2.2: each byte has its place: %v", e)
	}
}

// TestWriteFails: P2.2, the first Keep sectors are pieces; below 0 it counts as 0, above what there is as all.
func TestWriteFails(t *testing.T) {
	for _, c := range []struct {
		keep int
		want []int
		read string
	}{
		{math.MinInt, nil, "\x00\x00\x00\x00"},
		{-1, nil, "\x00\x00\x00\x00"},
		{0, nil, "\x00\x00\x00\x00"},
		{1, []int{1}, "\x00a\x00\x00"},
		{2, []int{1, 2}, "\x00ab\x00"},
		{3, []int{1, 2, 3}, "\x00abc"},
		{4, []int{1, 2, 3}, "\x00abc"},
		{math.MaxInt, []int{1, 2, 3}, "\x00abc"},
	} {
		d := made(t, 4, fail(c.keep))
		wants(t, "P2.2: Write that fails", d.Write(1, each("abc")), api.ErrDisk)
		pieces(t, "P2.2: Write that fails", d, c.want...)
		reads(t, "P2.2: Write that fails", d, each(c.read))
		reads(t, "P2.2: what a Write that fails wrote does not last", crashed(t, d), full(0, 4))
		steps(t, "P2.2: Write that fails", d, 1, 0)
		wants(t, "P2.2: Write behind one that failed", d.Write(0, each("xyzw")), api.OK)
		reads(t, "P2.2: Write behind one that failed", d, each("xyzw"))
	}
}

// TestReadArgs: P2.2, what is refused, and in which order.
func TestReadArgs(t *testing.T) {
	d := made(t, 4, fail(0))
	for _, c := range []struct {
		at, n int
		want  api.Errno
	}{
		{0, -1, api.ErrArg},
		{-1, -1, api.ErrArg}, // ahead of the place
		{9, -1, api.ErrArg},
		{math.MaxInt, math.MinInt, api.ErrArg},
		{math.MinInt, math.MinInt, api.ErrArg},
		{-1, 0, api.ErrRange},
		{-1, 2, api.ErrRange},
		{math.MinInt, math.MaxInt, api.ErrRange},
		{5, 0, api.ErrRange},
		{4, 1, api.ErrRange},
		{3, 2, api.ErrRange},
		{0, 5, api.ErrRange},
		{1, math.MaxInt, api.ErrRange},
		{math.MaxInt, 0, api.ErrRange},
		{math.MaxInt, 1, api.ErrRange},
		{math.MaxInt, math.MaxInt, api.ErrRange},
	} {
		if b, e := d.Read(c.at, c.n); b != nil || e != c.want {
			t.Errorf("P2.2: Read(%d, %d): %d bytes %v, not %v", c.at, c.n, len(b), e, c.want)
		}
	}
	steps(t, "P2.2: a Read is no step", d, 0, 1)
}

// TestRead: P2.2, any sectors in a row, none as well.
func TestRead(t *testing.T) {
	d := made(t, 4)
	d.Write(0, each("abcd"))
	d.Sync()
	d.Write(2, each("x"))
	all := each("abxd")
	for at := range 5 {
		for n := range 5 - at {
			if b, e := d.Read(at, n); !bytes.Equal(b, all[at*sector:(at+n)*sector]) || e != api.OK {
				t.Errorf("P2.2: Read(%d, %d): %s %v", at, n, told(b), e)
			}
		}
	}
	steps(t, "P2.2: a Read is no step", d, 3, 0)
}

// TestSync: P2.3, good: all lasts, of a sector that was written twice its last bytes.
func TestSync(t *testing.T) {
	d := made(t, 4)
	wants(t, "P2.3: Sync of no pieces", d.Sync(), api.OK)
	d.Write(0, each("abcd"))
	d.Write(1, each("xy"))
	d.Write(1, each("z"))
	wants(t, "P2.3: Sync", d.Sync(), api.OK)
	pieces(t, "P2.3: Sync", d)
	steps(t, "P2.3: Sync", d, 5, 0)
	reads(t, "P2.3: Sync", d, each("azyd"))
	reads(t, "P2.3: Crash behind a Sync", crashed(t, d), each("azyd"))
	d.Write(3, each("e"))
	pieces(t, "P2.3: Write behind a Sync", d, 3)
	reads(t, "P2.3: Write behind a Sync", d, each("azye"))
	reads(t, "P2.3: Crash behind a Write", crashed(t, d), each("azyd"))
}

// TestSyncFails: P2.3, the first Keep pieces last, and are none any more; the others go on being pieces.
func TestSyncFails(t *testing.T) {
	for _, c := range []struct {
		keep int
		left []int
		last string
	}{
		{math.MinInt, []int{2, 0, 2, 1, 2}, "\x00\x00\x00"},
		{-1, []int{2, 0, 2, 1, 2}, "\x00\x00\x00"},
		{0, []int{2, 0, 2, 1, 2}, "\x00\x00\x00"},
		{1, []int{0, 2, 1, 2}, "\x00\x00a"},
		{2, []int{2, 1, 2}, "b\x00a"},
		{3, []int{1, 2}, "b\x00c"},
		{4, []int{2}, "bdc"},
		{5, nil, "bde"},
		{6, nil, "bde"},
		{math.MaxInt, nil, "bde"},
	} {
		d := made(t, 3)
		for i, at := range []int{2, 0, 2, 1, 2} {
			d.Write(at, full("abcde"[i], 1))
		}
		d.Feed(fail(c.keep))
		wants(t, "P2.3: Sync that fails", d.Sync(), api.ErrDisk)
		steps(t, "P2.3: Sync that fails", d, 6, 0)
		pieces(t, "P2.3: Sync that fails", d, c.left...)
		reads(t, "P2.3: Sync that fails", d, each("bde"))
		reads(t, "P2.3: Sync that fails lets the first last", crashed(t, d), each(c.last))
		wants(t, "P2.3: Sync behind one that failed", d.Sync(), api.OK)
		pieces(t, "P2.3: Sync behind one that failed", d)
		reads(t, "P2.3: Sync behind one that failed", crashed(t, d), each("bde"))
	}
}

// TestPieces: P2.3, as they are when it is called; left at any time, and gone through again, also while it is gone through.
func TestPieces(t *testing.T) {
	d := made(t, 9)
	none := d.Pieces()
	want := []int{5, 0, 1, 2, 5, 8}
	d.Write(5, each("a"))
	d.Write(0, each("bcd"))
	d.Write(5, each("e"))
	d.Write(8, each("f"))
	all := d.Pieces()
	for most := 1; most <= len(want); most++ {
		if got := gone(all, most); !slices.Equal(got, want[:most]) {
			t.Errorf("P2.3: left behind %d: %v", most, got)
		}
		if got := gone(all, -1); !slices.Equal(got, want) {
			t.Errorf("P2.3: again, once left behind %d: %v", most, got)
		}
	}
	i := 0
	for at := range all {
		if got := gone(all, -1); !slices.Equal(got, want) || at != want[i] {
			t.Errorf("P2.3: one within another, at %d: %d %v", i, at, got)
		}
		d.Write(3, each("g")) // does not count any more
		i++
	}
	d.Sync()
	d.Write(7, each("h"))
	if got := gone(all, -1); !slices.Equal(got, want) {
		t.Errorf("P2.3: as they were when it was called: %v", got)
	}
	if got := gone(none, -1); got != nil {
		t.Errorf("P2.3: as they were when it was called: %v", got)
	}
	pieces(t, "P2.3: behind a Sync", d, 7)
}

// gone is what an iterator tells till it has told most of them; below 0: till its end.
func gone(all iter.Seq[int], most int) []int {
	var l []int
	all(func(at int) bool {
		l = append(l, at)
		return len(l) != most
	})
	return l
}

// TestCrashPicks: P2.4, what each pick leaves of one piece.
func TestCrashPicks(t *testing.T) {
	d := made(t, 2)
	d.Write(0, each("ab"))
	d.Sync()
	d.Write(1, each("x"))
	for _, c := range []struct{ pick, first int }{
		{0, 0},
		{1, 512},
		{2, 0},
		{3, 1},
		{5, 3},
		{257, 255},
		{258, 256},
		{512, 510},
		{513, 511},
		{514, 0}, // modulo 512
		{515, 1},
		{1025, 511},
		{1026, 0},
		{1 << 32, 510},
		{math.MaxInt, 509},
		{math.MaxInt - 509, 0},
		{math.MaxInt - 510, 511},
	} {
		want := append(full('a', 1), torn('x', c.first, 'b')...)
		reads(t, "P2.4: Crash of one piece", crashed(t, d, c.pick), want)
	}
}

// TestCrashOrder: P2.4, picks come in the order of the pieces, each over what the earlier ones left; behind the last one each is 0.
func TestCrashOrder(t *testing.T) {
	d := made(t, 3)
	d.Write(0, each("abc"))
	d.Sync()
	d.Write(0, each("xy"))
	d.Write(0, each("z"))
	for _, c := range []struct {
		picks []int
		want  []byte
	}{
		{nil, each("abc")},
		{[]int{}, each("abc")},
		{[]int{0, 0, 0}, each("abc")},
		{[]int{1}, each("xbc")}, // fewer picks than pieces
		{[]int{0, 1}, each("ayc")},
		{[]int{1, 1}, each("xyc")},
		{[]int{0, 0, 1}, each("zbc")},
		{[]int{1, 1, 1}, each("zyc")},
		{[]int{1, 0, 0}, each("xbc")},
		{[]int{1, 0, 2}, each("xbc")},
		{[]int{1, 0, 12}, slices.Concat(torn('z', 10, 'x'), each("bc"))},
		{[]int{22, 0, 12}, slices.Concat(torn('z', 10, 0)[:10], torn('x', 20, 'a')[10:], each("bc"))},
		{[]int{12, 0, 22}, slices.Concat(torn('z', 20, 'a'), each("bc"))},
		{[]int{12, 5, 0}, slices.Concat(torn('x', 10, 'a'), torn('y', 3, 'b'), each("c"))},
		{[]int{1, 1, 1, 1, 0, 7}, each("zyc")}, // more picks than pieces
	} {
		reads(t, "P2.4: Crash", crashed(t, d, c.picks...), c.want)
	}
}

// TestCrashArgs: P2.4, a pick below 0 is refused, wherever it stands, also behind the last piece.
func TestCrashArgs(t *testing.T) {
	d := made(t, 2)
	for range 2 {
		for _, picks := range [][]int{{-1}, {math.MinInt}, {0, -1}, {-1, 1}, {1, 1, 1, -2}, {0, 0, math.MinInt, 0}} {
			if c, e := d.Crash(picks...); c != nil || e != api.ErrArg {
				t.Errorf("P2.4: Crash(%v): %v", picks, e)
			}
		}
		d.Write(0, each("ab"))
	}
}

// TestCrashLeaves: P2.4, no fates, no steps, no pieces; it goes on apart, and the old one is as it was.
func TestCrashLeaves(t *testing.T) {
	d := made(t, 3)
	d.Write(0, each("abc"))
	d.Sync()
	d.Write(1, each("xy"))
	d.Feed(fail(1), fail(0))
	was := d.Copy()
	c := crashed(t, d, 1)
	steps(t, "P2.4: Crash", c, 0, 0)
	pieces(t, "P2.4: Crash", c)
	if c.Size() != 3 {
		t.Errorf("P2.4: Crash: Size %d", c.Size())
	}
	wants(t, "P2.4: Write behind a crash", c.Write(0, each("012")), api.OK)
	reads(t, "P2.4: Write behind a crash", c, each("012"))
	reads(t, "P2.4: Crash behind a crash", crashed(t, c), each("axc"))
	wants(t, "P2.4: Sync behind a crash", c.Sync(), api.OK)
	reads(t, "P2.4: Crash behind a Sync", crashed(t, c), each("012"))
	if !d.Same(was) {
		t.Errorf("P2.4: Crash changes the old one")
	}
	reads(t, "P2.4: the old one", d, each("axy"))
	reads(t, "P2.4: the old one, crashed again", crashed(t, d), each("abc"))
	pieces(t, "P2.4: the old one", d, 1, 2)
	steps(t, "P2.4: the old one", d, 3, 2)
	c = crashed(t, d, 1)
	d.Write(0, each("def"))
	d.Sync()
	reads(t, "P2.4: what was left goes on apart", c, each("axc"))
}

// TestCopy: P2.4, another one with all that there is, that goes on apart.
func TestCopy(t *testing.T) {
	d := made(t, 3)
	d.Write(0, each("abc"))
	d.Sync()
	d.Write(1, each("xy"))
	d.Feed(fail(1), good, fail(0))
	for range 2 { // the one goes on, then the other one
		c := d.Copy()
		if !c.Same(d) || !d.Same(c) || c.Size() != 3 {
			t.Errorf("P2.4: Copy")
		}
		steps(t, "P2.4: Copy", c, 3, 3)
		pieces(t, "P2.4: Copy", c, 1, 2)
		reads(t, "P2.4: Copy", c, each("axy"))
		reads(t, "P2.4: Copy, crashed", crashed(t, c), each("abc"))
		wants(t, "P2.4: Copy takes its own fate", c.Sync(), api.ErrDisk)
		c.Feed(fail(2), fail(2))
		c.Write(0, each("p"))
		wants(t, "P2.4: Copy takes its own fate", c.Write(0, each("pqr")), api.ErrDisk)
		pieces(t, "P2.4: Copy goes on", c, 2, 0)
		pieces(t, "P2.4: the old one is as it was", d, 1, 2)
		steps(t, "P2.4: the old one is as it was", d, 3, 3)
		reads(t, "P2.4: the old one is as it was", d, each("axy"))
		reads(t, "P2.4: the old one is as it was", crashed(t, d), each("abc"))
		d, c = c.Copy(), d
		d.Sync()
		d.Write(0, each("mno"))
		pieces(t, "P2.4: the old one's copy", c, 1, 2)
		d = c
	}
	d.Feed(fail(0))
	c := d.Copy()
	d.Feed(good)
	c.Feed(fail(0))
	for range 4 {
		d.Sync()
		c.Sync()
	}
	wants(t, "P2.4: fates fed to the one", d.Sync(), api.OK)
	wants(t, "P2.4: fates fed to the other one", c.Sync(), api.ErrDisk)
}

// TestCopyRoom: P2.4, what comes behind the pieces and the fates of a copy does not come behind the old one's, however many there are.
func TestCopyRoom(t *testing.T) {
	for n := range 20 {
		d := made(t, 2)
		for range n {
			d.Write(0, each("a"))
		}
		c := d.Copy()
		d.Write(1, each("x"))
		c.Write(1, each("y"))
		d.Sync()
		c.Sync()
		reads(t, "P2.4: the old one's last piece", crashed(t, d), each(first(n)+"x"))
		reads(t, "P2.4: the copy's last piece", crashed(t, c), each(first(n)+"y"))

		for range n {
			d.Feed(good)
		}
		c = d.Copy()
		d.Feed(good)
		c.Feed(fail(0))
		for range n {
			d.Sync()
			c.Sync()
		}
		wants(t, "P2.4: the old one's last fate", d.Sync(), api.OK)
		wants(t, "P2.4: the copy's last fate", c.Sync(), api.ErrDisk)
	}
}

// first is what a sector has behind n Writes of a.
func first(n int) string {
	if n == 0 {
		return "\x00"
	}
	return "a"
}

// TestSame: P2.4, sizes, lasting bytes, and pieces with their order and their bytes; no fates, no steps.
func TestSame(t *testing.T) {
	make := func(n int, do ...func(*disk.Disk)) *disk.Disk {
		d := made(t, n)
		for _, f := range do {
			f(d)
		}
		return d
	}
	write := func(at int, by string) func(*disk.Disk) {
		return func(d *disk.Disk) { d.Write(at, each(by)) }
	}
	sync := func(d *disk.Disk) { d.Sync() }
	feed := func(d *disk.Disk) { d.Feed(fail(0)) }
	// Those of one row are the same, those of two rows are not.
	rows := [][]*disk.Disk{
		{nil, new(disk.Disk)},
		{make(1), make(1, sync), make(1, feed), make(1, write(0, "\x00"), sync), make(1, write(0, "a"), write(0, "\x00"), sync), make(1, feed, write(0, "a"))},
		{make(2), make(2, write(1, "b"), write(0, "a\x00"), write(0, "\x00"), sync)},
		{make(2, write(0, "\x00"))},
		{make(2, write(0, "a"))},
		{make(2, write(1, "a"))},
		{make(2, write(0, "a"), sync), make(2, write(0, "b"), write(0, "a"), sync, feed)},
		{make(2, write(0, "a"), sync, write(0, "a"))},
		{make(2, write(0, "b"), sync)},
		{make(2, write(1, "a"), sync)},
		{make(2, write(0, "ab")), make(2, write(0, "a"), write(1, "b"))},
		{make(2, write(1, "b"), write(0, "a"))},
		{make(2, write(0, "a"), write(1, "b"), write(0, "a"))},
		{make(2, write(0, "b"), write(1, "b"), write(0, "a"))},
		{make(2, write(0, "ab"), sync), crashed(t, make(2, write(0, "ab")), 1, 1)},
		{make(1 << 16), make(1<<16, write(1<<16-1, "\x00"), sync)},
		{make(1<<16, write(1<<16-1, "a"), sync)},
	}
	for i, row := range rows {
		for j, d := range row {
			for k, other := range rows {
				for l, o := range other {
					if got := d.Same(o); got != (i == k) {
						t.Errorf("P2.4: Same of %d %d and %d %d: %v", i, j, k, l, got)
					}
				}
			}
		}
	}
	last := full('a', 1)
	last[sector-1]++
	a, b := make(1, write(0, "a")), make(1)
	b.Write(0, last)
	for range 2 {
		if a.Same(b) || b.Same(a) {
			t.Errorf("P2.4: Same, but for a sector's last byte")
		}
		a.Sync()
		b.Sync()
	}
}

// TestNone: a method of a nil disk answers ErrNil where it answers an error, ahead of all else, and zero answers else; a zero one is as nil.
func TestNone(t *testing.T) {
	for _, d := range []*disk.Disk{nil, new(disk.Disk)} {
		wants(t, "P2.1: Feed of none", d.Feed(good), api.ErrNil)
		wants(t, "P2.1: Feed of none", d.Feed(api.Fate{Kind: 2}), api.ErrNil)
		wants(t, "P2.1: Feed of none", d.Feed(), api.ErrNil)
		for _, at := range []int{-1, 0, 1, math.MaxInt} {
			for _, n := range []int{0, 3, sector} {
				wants(t, "P2.2: Write of none", d.Write(at, make([]byte, n)), api.ErrNil)
			}
			for _, n := range []int{-1, 0, 1} {
				if b, e := d.Read(at, n); b != nil || e != api.ErrNil {
					t.Errorf("P2.2: Read of none: %v %v", b, e)
				}
			}
		}
		wants(t, "P2.3: Sync of none", d.Sync(), api.ErrNil)
		if d.Size() != 0 {
			t.Errorf("P2.1: Size of none: %d", d.Size())
		}
		pieces(t, "P2.3: Pieces of none", d)
		steps(t, "P2.1: Steps of none", d, 0, 0)
		for _, picks := range [][]int{nil, {1}, {-1}} {
			if c, e := d.Crash(picks...); c != nil || e != api.ErrNil {
				t.Errorf("P2.4: Crash of none: %v %v", c, e)
			}
		}
		if c := d.Copy(); c != nil {
			t.Errorf("P2.4: Copy of none: %v", c)
		}
	}
}

// TestHandedIn: what is handed in is not changed, the room behind it included, and not kept.
func TestHandedIn(t *testing.T) {
	fates := []api.Fate{fail(1), good, fail(0), fail(7)}
	d := made(t, 2, fates[:2]...)
	fates[0], fates[1] = good, fail(0)
	wants(t, "New keeps the fates that were handed in", d.Write(0, each("ab")), api.ErrDisk)
	wants(t, "New keeps the fates that were handed in", d.Sync(), api.OK)
	d = made(t, 2)
	d.Feed(fates[:2]...)
	d.Feed(good)
	if fates[2] != fail(0) || fates[3] != fail(7) {
		t.Errorf("Feed changes the room behind the fates: %v", fates)
	}
	fates[0], fates[1] = fail(0), good
	wants(t, "Feed keeps the fates that were handed in", d.Sync(), api.OK)
	wants(t, "Feed keeps the fates that were handed in", d.Sync(), api.ErrDisk)

	d = made(t, 2)
	room := append(each("ab"), "room behind"...)
	b := room[:2*sector]
	d.Write(0, b)
	d.Sync()
	d.Write(0, b)
	if string(room) != string(each("ab"))+"room behind" {
		t.Errorf("Write changes what was handed in")
	}
	clear(room)
	reads(t, "Write keeps what was handed in", d, each("ab"))
	reads(t, "Write keeps what was handed in", crashed(t, d), each("ab"))
	reads(t, "Write keeps what was handed in", crashed(t, d, 1, 1), each("ab"))

	picks := []int{1, 3, 0, 1}
	crashed(t, d, picks[:2]...)
	if !slices.Equal(picks, []int{1, 3, 0, 1}) {
		t.Errorf("Crash changes the picks: %v", picks)
	}
}

// TestNewMemory: what is read shares no memory with the disk, nor with another answer.
func TestNewMemory(t *testing.T) {
	d := made(t, 2)
	d.Write(0, each("ab"))
	for range 2 { // pieces, then what lasts
		one, _ := d.Read(0, 2)
		two, _ := d.Read(0, 2)
		clear(one[:cap(one)])
		if !bytes.Equal(two, each("ab")) {
			t.Errorf("P2.2: two answers share")
		}
		reads(t, "P2.2: an answer shares", d, each("ab"))
		d.Sync()
	}
	reads(t, "P2.2: an answer shares", crashed(t, d), each("ab"))
	none, _ := d.Read(1, 0)
	_ = append(none, "changed"...)
	reads(t, "P2.2: an answer of no sectors shares", d, each("ab"))
}

// TestApart: two disks have nothing in common.
func TestApart(t *testing.T) {
	a, b := made(t, 2, good), made(t, 2)
	a.Write(0, each("ab"))
	a.Sync()
	a.Write(1, each("c"))
	reads(t, "P2.1: another disk", b, full(0, 2))
	pieces(t, "P2.1: another disk", b)
	steps(t, "P2.1: another disk", b, 0, 0)
}
