package disk_test

import (
	"bytes"
	"slices"
	"testing"

	"lexicon/api"
	"lexicon/disk"
)

// plain is the chapter's words told in the plainest way: bytes that last, and a list of what was written since.
type plain struct {
	lasting []byte
	written []wrote
	fates   []api.Fate
	done    int
}

type wrote struct {
	at    int
	bytes []byte
}

// part tells how much of a step of n parts is done.
func (p *plain) part(n int) (int, api.Errno) {
	p.done++
	if len(p.fates) == 0 {
		return n, api.OK
	}
	f := p.fates[0]
	p.fates = p.fates[1:]
	if f.Kind == api.FateGood {
		return n, api.OK
	}
	return max(0, min(n, f.Keep)), api.ErrDisk
}

func (p *plain) write(at int, b []byte) api.Errno {
	n := len(b) / sector
	if at < 0 || at+n > len(p.lasting)/sector {
		return api.ErrRange
	}
	n, e := p.part(n)
	for i := range n {
		p.written = append(p.written, wrote{at + i, bytes.Clone(b[i*sector : (i+1)*sector])})
	}
	return e
}

func (p *plain) sync() api.Errno {
	n, e := p.part(len(p.written))
	for _, w := range p.written[:n] {
		copy(p.lasting[w.at*sector:], w.bytes)
	}
	p.written = p.written[n:]
	return e
}

// crash is what a crash leaves; picks of none: what is read.
func (p *plain) crash(picks func(i int) int) []byte {
	b := bytes.Clone(p.lasting)
	for i, w := range p.written {
		n := sector
		switch pick := picks(i); {
		case pick == 0:
			n = 0
		case pick > 1:
			n = (pick - 2) % sector
		}
		copy(b[w.at*sector:], w.bytes[:n])
	}
	return b
}

func (p *plain) read() []byte { return p.crash(func(int) int { return 1 }) }

// numbers tells numbers below those that it is asked, in no plain order, the same ones each time.
func numbers(seed uint32) func(below int) int {
	x := seed*2654435761 + 12345
	return func(below int) int {
		x = x*1664525 + 1013904223
		return int(x>>8) % below
	}
}

// some is a list of picks: fewer or more than there are pieces, of each kind.
func some(next func(int) int, pieces int) []int {
	picks := make([]int, next(pieces+3))
	for i := range picks {
		picks[i] = []int{0, 1, 2 + next(sector), 2 + next(1<<20)}[next(4)]
	}
	return picks
}

// TestScripts: P2.1 to P2.4, whatever is done, the disk is what the chapter's words say.
func TestScripts(t *testing.T) {
	for seed := range uint32(60) {
		next := numbers(seed)
		n := 1 + next(9)
		d, p := made(t, n), &plain{lasting: make([]byte, n*sector)}
		for range 60 {
			one(t, d, p, next)
			b, e := d.Read(0, n)
			if !bytes.Equal(b, p.read()) || e != api.OK {
				t.Fatalf("P2.2: seed %d: reads another thing (%v)", seed, e)
			}
			var at []int
			for _, w := range p.written {
				at = append(at, w.at)
			}
			pieces(t, "P2.3: Pieces", d, at...)
			steps(t, "P2.1: Steps", d, p.done, len(p.fates))
			leaves(t, d, p, some(next, len(at)))
			if t.Failed() {
				t.Fatalf("seed %d", seed)
			}
		}
	}
}

// one does one thing to both.
func one(t *testing.T, d *disk.Disk, p *plain, next func(int) int) {
	t.Helper()
	switch next(5) {
	case 0:
		f := api.Fate{Kind: api.FateKind(next(2)), Keep: next(8) - 1}
		wants(t, "P2.1: Feed", d.Feed(f), api.OK)
		p.fates = append(p.fates, f)
	case 1:
		wants(t, "P2.3: Sync", d.Sync(), p.sync())
	default:
		b := make([]byte, next(5)*sector)
		for i := range b {
			b[i] = byte(next(256))
		}
		at := next(11) - 1
		wants(t, "P2.2: Write", d.Write(at, b), p.write(at, b))
	}
}

// leaves holds what a crash leaves against the chapter's words.
func leaves(t *testing.T, d *disk.Disk, p *plain, picks []int) {
	t.Helper()
	c := crashed(t, d, picks...)
	want := p.crash(func(i int) int {
		if i < len(picks) {
			return picks[i]
		}
		return 0
	})
	if !bytes.Equal(whole(t, c), want) {
		t.Errorf("P2.4: Crash(%v) leaves another thing", picks)
	}
	pieces(t, "P2.4: Crash", c)
	// What a crash leaves lasts, so a further one, whatever it picks, leaves the same.
	if !crashed(t, c, 1, 0, 7).Same(c) {
		t.Errorf("P2.4: a crash behind a Crash(%v) changes something", picks)
	}
}

// TestWhatFollows: P2.5, what a crash may leave, whatever was done ahead of it.
func TestWhatFollows(t *testing.T) {
	for seed := range uint32(40) {
		next := numbers(seed + 1000)
		n := 1 + next(6)
		d := made(t, n)
		was, since := whole(t, d), []wrote{}
		for range 40 {
			if next(4) == 0 {
				d.Feed(api.Fate{Kind: api.FateKind(next(2)), Keep: next(4)})
			}
			if next(3) == 0 && d.Sync() == api.OK {
				was, since = whole(t, d), nil
				first := crashed(t, d)
				if !crashed(t, d, some(next, 4)...).Same(first) {
					t.Fatalf("P2.5: seed %d: crashes behind a Sync leave two things", seed)
				}
			}
			w := wrote{next(n), full(byte(1+next(255)), 1)}
			d.Write(w.at, w.bytes)
			since = append(since, w)
			all := slices.Repeat([]int{1}, len(slices.Collect(d.Pieces())))
			reads(t, "P2.5: a crash with 1 for each piece", crashed(t, d, all...), whole(t, d))
			anyOf(t, whole(t, crashed(t, d, some(next, len(all))...)), was, since)
			if t.Failed() {
				t.Fatalf("seed %d", seed)
			}
		}
	}
}

// anyOf tells whether each byte is what it was, or what some piece since has there.
func anyOf(t *testing.T, got, was []byte, since []wrote) {
	t.Helper()
	for i, x := range got {
		ok := x == was[i]
		for _, w := range since {
			ok = ok || i/sector == w.at && x == w.bytes[i%sector]
		}
		if !ok {
			t.Errorf("P2.5: byte %d is what it never was", i)
			return
		}
	}
}

// TestManyPieces: each sector of the greatest disk, twice, and read all the while.
func TestManyPieces(t *testing.T) {
	const n = 1 << 16
	d := made(t, n)
	for round := range 2 {
		for at := range n {
			by := byte(at + at>>8 + round)
			if e := d.Write(at, full(by, 1)); e != api.OK {
				t.Fatalf("P2.2: Write(%d): %v", at, e)
			}
			if b, e := d.Read(at, 1); b[0] != by || b[sector-1] != by || e != api.OK {
				t.Fatalf("P2.2: Read(%d): %v", at, e)
			}
		}
	}
	d.Feed(fail(n + n/2))
	wants(t, "P2.3: Sync that fails", d.Sync(), api.ErrDisk)
	if l := slices.Collect(d.Pieces()); len(l) != n/2 || l[0] != n/2 || l[n/2-1] != n-1 {
		t.Errorf("P2.3: %d pieces are left", len(l))
	}
	c := crashed(t, d)
	for _, at := range []int{0, n/2 - 1, n / 2, n - 1} {
		want := byte(at + at>>8)
		if at < n/2 {
			want++
		}
		if b, _ := c.Read(at, 1); b[0] != want {
			t.Errorf("P2.3: sector %d behind a crash: %d, not %d", at, b[0], want)
		}
	}
}
