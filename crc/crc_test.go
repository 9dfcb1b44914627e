package crc_test

import (
	"bytes"
	"testing"

	"lexicon/api"
	"lexicon/crc"
)

// plainMore is the chapter's words for the sum, bit by bit, on behind the bytes whose sum is given.
func plainMore(sum uint32, b []byte) uint32 {
	r := sum ^ 0xFFFFFFFF
	for _, x := range b {
		r ^= uint32(x)
		for range 8 {
			if r&1 == 1 {
				r = r>>1 ^ 0xEDB88320
			} else {
				r >>= 1
			}
		}
	}
	return r ^ 0xFFFFFFFF
}

// plainFinger is the chapter's words for the fingerprint, bit by bit, on from f.
func plainFinger(f uint64, b []byte) uint64 {
	for _, x := range b {
		t := uint64(byte(f) ^ x)
		for range 8 {
			if t&1 == 1 {
				t = t>>1 ^ 0xC15D213AA4D7A795
			} else {
				t >>= 1
			}
		}
		f = f>>8 ^ t
	}
	return f
}

// some are n bytes in which every value comes up sooner or later, in no plain order.
func some(n int) []byte {
	b := make([]byte, n)
	x := uint32(n)*2654435761 + 12345
	for i := range b {
		x = x*1664525 + 1013904223
		b[i] = byte(x >> 24)
	}
	return b
}

// samples are ordinary bytes and the edges: none, one byte of each value, whole runs of one byte, long ones.
func samples() [][]byte {
	l := [][]byte{nil, {}, []byte("ab"), []byte("123456789"), []byte("\"int\""), []byte("\xff\xfe no UTF-8"), some(1 << 16)}
	for x := range 256 {
		l = append(l, []byte{byte(x)}, bytes.Repeat([]byte{byte(x)}, 9))
	}
	for n := range 70 {
		l = append(l, some(n))
	}
	return l
}

// TestSum: P1.1, what the sum is.
func TestSum(t *testing.T) {
	for s, want := range map[string]uint32{"": 0, "123456789": 0xCBF43926, "a": 0xE8B7BE43, "\x00": 0xD202EF8D, "\x00\x00\x00\x00": 0x2144DF1C, "\xff\xff\xff\xff": 0xFFFFFFFF} {
		if got := crc.Sum([]byte(s)); got != want {
			t.Errorf("P1.1: Sum(%q): %#x, not %#x", s, got, want)
		}
	}
	for _, b := range samples() {
		if got, want := crc.Sum(b), plainMore(0, b); got != want {
			t.Errorf("P1.1: Sum(%.20q, %d bytes): %#x, not %#x", b, len(b), got, want)
		}
	}
}

// TestMore: P1.1, each number is the sum of some bytes, so each may be gone on from.
func TestMore(t *testing.T) {
	for _, sum := range []uint32{0, 1, 0xCBF43926, 0x80000000, 0xFFFFFFFE, 0xFFFFFFFF} {
		if got := crc.More(sum, nil); got != sum {
			t.Errorf("P1.1: More(%#x, none): %#x", sum, got)
		}
		for _, b := range samples() {
			if got, want := crc.More(sum, b), plainMore(sum, b); got != want {
				t.Errorf("P1.1: More(%#x, %.20q): %#x, not %#x", sum, b, got, want)
			}
		}
	}
}

// TestFinger: P1.1, what the fingerprint is.
func TestFinger(t *testing.T) {
	for s, want := range map[string]uint64{"": 0xC15D213AA4D7A795, "\"int\"": 0x7275D51A3F395C8F, "\"null\"": 0x63DD24E7CC258F8A, "\"string\"": 0x8F014872634503C7} {
		if got := crc.Finger([]byte(s)); got != want {
			t.Errorf("P1.1: Finger(%q): %#x, not %#x", s, got, want)
		}
	}
	for _, b := range samples() {
		if got, want := crc.Finger(b), plainFinger(0xC15D213AA4D7A795, b); got != want {
			t.Errorf("P1.1: Finger(%.20q, %d bytes): %#x, not %#x", b, len(b), got, want)
		}
	}
}

// TestMoreFinger: P1.1, from each number on.
func TestMoreFinger(t *testing.T) {
	for _, f := range []uint64{0, 1, 0xC15D213AA4D7A795, 1 << 63, 1<<64 - 1} {
		if got := crc.MoreFinger(f, nil); got != f {
			t.Errorf("P1.1: MoreFinger(%#x, none): %#x", f, got)
		}
		for _, b := range samples() {
			if got, want := crc.MoreFinger(f, b), plainFinger(f, b); got != want {
				t.Errorf("P1.1: MoreFinger(%#x, %.20q): %#x, not %#x", f, b, got, want)
			}
		}
	}
}

// TestBehindOneAnother: P1.4, bytes that are taken in two pieces, cut anywhere.
func TestBehindOneAnother(t *testing.T) {
	for _, whole := range [][]byte{nil, []byte("a"), []byte("123456789"), some(40)} {
		for i := range len(whole) + 1 {
			a, b := whole[:i], whole[i:]
			if got, want := crc.More(crc.Sum(a), b), crc.Sum(whole); got != want {
				t.Errorf("P1.4: %q cut at %d: sum %#x, not %#x", whole, i, got, want)
			}
			if got, want := crc.MoreFinger(crc.Finger(a), b), crc.Finger(whole); got != want {
				t.Errorf("P1.4: %q cut at %d: fingerprint %#x, not %#x", whole, i, got, want)
			}
		}
	}
}

// TestSeal: P1.2, the bytes, and behind them their sum with the lowest byte first.
func TestSeal(t *testing.T) {
	for s, want := range map[string]string{"": "\x00\x00\x00\x00", "123456789": "123456789\x26\x39\xf4\xcb", "a": "a\x43\xbe\xb7\xe8"} {
		if got := crc.Seal([]byte(s)); string(got) != want {
			t.Errorf("P1.2: Seal(%q): %q, not %q", s, got, want)
		}
	}
	for _, b := range samples() {
		sum := plainMore(0, b)
		want := append(bytes.Clone(b), byte(sum), byte(sum>>8), byte(sum>>16), byte(sum>>24))
		if got := crc.Seal(b); !bytes.Equal(got, want) {
			t.Errorf("P1.2: Seal(%.20q, %d bytes): %.30q", b, len(b), got)
		}
	}
}

// TestOpen: P1.2, what is opened and what is refused; beside an error there are no bytes.
func TestOpen(t *testing.T) {
	for _, c := range []struct {
		in, out string
		err     api.Errno
	}{
		{"", "", api.ErrRange},
		{"\x00", "", api.ErrRange},
		{"\x00\x00", "", api.ErrRange},
		{"abc", "", api.ErrRange},
		{"\x00\x00\x00\x00", "", api.OK},
		{"\x01\x00\x00\x00", "", api.ErrSum},
		{"\x00\x01\x00\x00", "", api.ErrSum},
		{"\x00\x00\x01\x00", "", api.ErrSum},
		{"\x00\x00\x00\x01", "", api.ErrSum},
		{"\xff\xff\xff\xff", "", api.ErrSum},
		{"123456789\x26\x39\xf4\xcb", "123456789", api.OK},
		{"123456789\xcb\xf4\x39\x26", "", api.ErrSum}, // the highest first
		{"123456789\x26\x39\xf4", "", api.ErrSum},     // cut off
		{"123456789\x26\x39\xf4\xcb\x00", "", api.ErrSum},
		{"23456789\x26\x39\xf4\xcb", "", api.ErrSum},
		{"a\x43\xbe\xb7\xe8", "a", api.OK},
		{"b\x43\xbe\xb7\xe8", "", api.ErrSum},
	} {
		got, e := crc.Open([]byte(c.in))
		if string(got) != c.out || e != c.err || e != api.OK && got != nil {
			t.Errorf("P1.2: Open(%q): %q %v, not %q %v", c.in, got, e, c.out, c.err)
		}
	}
	if got, e := crc.Open(nil); got != nil || e != api.ErrRange {
		t.Errorf("P1.2: Open(nil): %q %v", got, e)
	}
}

// TestOpenOfSeal: P1.4, the bytes come back.
func TestOpenOfSeal(t *testing.T) {
	for _, b := range samples() {
		if got, e := crc.Open(crc.Seal(b)); !bytes.Equal(got, b) || e != api.OK {
			t.Errorf("P1.4: Open of Seal(%.20q, %d bytes): %.20q %v", b, len(b), got, e)
		}
	}
	twice := crc.Seal(crc.Seal([]byte("ab")))
	once, e := crc.Open(twice)
	if got, f := crc.Open(once); string(got) != "ab" || e != api.OK || f != api.OK {
		t.Errorf("P1.4: sealed twice: %q %v %v", got, e, f)
	}
}

// TestOneByteChanged: P1.4, any byte of what was sealed, to any other value.
func TestOneByteChanged(t *testing.T) {
	for _, b := range [][]byte{nil, []byte("a"), []byte("123456789"), some(40)} {
		sealed := crc.Seal(b)
		for i, old := range sealed {
			for turn := 1; turn < 256; turn++ {
				sealed[i] = old ^ byte(turn)
				if got, e := crc.Open(sealed); e != api.ErrSum || got != nil {
					t.Errorf("P1.4: %q, byte %d turned by %#x: %q %v", b, i, turn, got, e)
				}
			}
			sealed[i] = old
		}
	}
}

// told is what All tells of each beginning.
type told struct {
	n   int
	sum uint32
}

// beginnings are what All has to tell of b.
func beginnings(b []byte) []told {
	var l []told
	for n := range len(b) + 1 {
		l = append(l, told{n, plainMore(0, b[:n])})
	}
	return l
}

func same(a, b []told) bool {
	if len(a) != len(b) {
		return false
	}
	for i := range a {
		if a[i] != b[i] {
			return false
		}
	}
	return true
}

// gone is what an iterator tells till it has told most of them; below 0: till its end.
func gone(all func(func(int, uint32) bool), most int) []told {
	var l []told
	all(func(n int, sum uint32) bool {
		l = append(l, told{n, sum})
		return len(l) != most
	})
	return l
}

// TestAll: P1.3, each beginning in order, from none to the whole, with its length.
func TestAll(t *testing.T) {
	for _, b := range [][]byte{nil, {}, {0}, []byte("ab"), []byte("123456789"), some(300)} {
		if got, want := gone(crc.All(b), -1), beginnings(b); !same(got, want) {
			t.Errorf("P1.3: All(%q): %v, not %v", b, got, want)
		}
	}
}

// TestAllLeft: P1.3, left at any time, and gone through again, also while it is gone through.
func TestAllLeft(t *testing.T) {
	b := []byte("123456789")
	want := beginnings(b)
	all := crc.All(b)
	for most := 1; most <= len(want); most++ {
		if got := gone(all, most); !same(got, want[:most]) {
			t.Errorf("P1.3: left behind %d: %v", most, got)
		}
		if got := gone(all, -1); !same(got, want) {
			t.Errorf("P1.3: again, once left behind %d: %v", most, got)
		}
	}
	n := 0
	for i, sum := range all {
		if got := gone(all, -1); !same(got, want) || want[i] != (told{i, sum}) {
			t.Errorf("P1.3: one within another at %d: %v", i, got)
		}
		n++
	}
	if n != len(want) {
		t.Errorf("P1.3: one around another: %d", n)
	}
}

// TestAllKeeps: P1.3, the bytes count as they were when All was called.
func TestAllKeeps(t *testing.T) {
	b := []byte("123456789")
	want := beginnings(b)
	all := crc.All(b)
	b[0] = 'x'
	if got := gone(all, -1); !same(got, want) {
		t.Errorf("P1.3: changed ahead of going through: %v", got)
	}
	clear(b)
	if got := gone(all, -1); !same(got, want) {
		t.Errorf("P1.3: changed between: %v", got)
	}
}

// TestHandedIn: what is handed in is not changed, nor the room behind it.
func TestHandedIn(t *testing.T) {
	room := append(crc.Seal([]byte("ab")), "room behind"...)
	was := string(room)
	b := room[:6]
	crc.Sum(b)
	crc.More(7, b)
	crc.Finger(b)
	crc.MoreFinger(7, b)
	crc.Seal(b)
	crc.Open(b)
	crc.Open(b[:5])
	gone(crc.All(b), -1)
	if string(room) != was {
		t.Errorf("handed in %q, now %q", was, room)
	}
}

// TestNewMemory: an answer shares no memory with what was handed in, nor with another answer.
func TestNewMemory(t *testing.T) {
	b := []byte("ab")
	one, two := crc.Seal(b), crc.Seal(b)
	clear(one[:cap(one)])
	if string(b) != "ab" || string(two[:2]) != "ab" {
		t.Errorf("P1.2: Seal shares: %q %q", b, two)
	}
	three, _ := crc.Open(two)
	four, _ := crc.Open(two)
	clear(three[:cap(three)])
	if !bytes.Equal(two, crc.Seal(b)) || string(four) != "ab" {
		t.Errorf("P1.2: Open shares: %q %q", two, four)
	}
	empty := make([]byte, 4)
	if none, e := crc.Open(empty); e == api.OK {
		copy(none[:cap(none)], "changed")
		_ = append(none, "changed"...)
	}
	if !bytes.Equal(empty, make([]byte, 4)) {
		t.Errorf("P1.2: Open of no bytes shares: %q", empty)
	}
}
