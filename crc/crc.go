// Package crc is layer 1: see shared/doc/01-crc.md.
package crc

import (
	"iter"

	"lexicon/api"
)

const (
	sumTurn  uint32 = 0xEDB88320
	sumEnds  uint32 = 1<<32 - 1
	sumBytes        = 4

	// The fingerprint begins with the word that it is turned by.
	fingerTurn uint64 = 0xC15D213AA4D7A795
)

// word is what bytes are added to.
type word interface{ uint32 | uint64 }

// Sum tells the sum.
func Sum(b []byte) uint32 { return More(0, b) }

// More tells the sum of more bytes.
func More(sum uint32, b []byte) uint32 {
	return add(sumTurn, sum^sumEnds, b) ^ sumEnds
}

// Finger tells the fingerprint.
func Finger(b []byte) uint64 { return MoreFinger(fingerTurn, b) }

// MoreFinger tells the fingerprint of more bytes.
func MoreFinger(f uint64, b []byte) uint64 { return add(fingerTurn, f, b) }

// Seal puts the sum behind bytes.
func Seal(b []byte) []byte {
	sealed := copied(b, sumBytes)
	sum := Sum(b)
	for i := range sumBytes {
		sealed[len(b)+i] = sumByte(sum, i)
	}
	return sealed
}

// Open tells the bytes ahead of their sum.
func Open(b []byte) ([]byte, api.Errno) {
	n := len(b) - sumBytes
	if n < 0 {
		return nil, api.ErrRange
	}
	sum := Sum(b[:n])
compare:
	for i := 0; ; i++ {
		switch {
		case i == sumBytes:
			return copied(b[:n], 0), api.OK
		case b[n+i] != sumByte(sum, i):
			break compare
		}
	}
	return nil, api.ErrSum
}

// All goes over the sums of beginnings.
func All(b []byte) iter.Seq2[int, uint32] {
	// The caller may change b between this call and a later going through.
	b = copied(b, 0)
	t := table(sumTurn)
	return func(yield func(int, uint32) bool) {
		r := sumEnds
		for i, x := range b {
			if !yield(i, r^sumEnds) {
				return
			}
			r = step(&t, r, x)
		}
		yield(len(b), r^sumEnds)
	}
}

// table tells what each byte becomes, gone eight places down.
func table[W word](turn W) [256]W {
	var t [256]W
	// A table is made anew by each call that needs one, so only the bytes of one bit are
	// gone down with: what two bytes become, turned by each other, is what both become together.
	w := W(1)
	for bit := 128; bit > 0; bit /= 2 {
		w = down(w, turn)
		for i := 0; i < len(t); i += 2 * bit {
			t[i+bit] = t[i] ^ w
		}
	}
	return t
}

// down goes one place down, and turns if a bit is lost.
func down[W word](w, turn W) W {
	if w&1 == 1 {
		return w>>1 ^ turn
	}
	return w >> 1
}

// step goes on from w over one byte.
func step[W word](t *[256]W, w W, x byte) W { return t[byte(w)^x] ^ w>>8 }

// add goes on from w over bytes.
func add[W word](turn, w W, b []byte) W {
	t := table(turn)
	for _, x := range b {
		w = step(&t, w, x)
	}
	return w
}

// sumByte tells byte i of a sum, the lowest one first.
func sumByte(sum uint32, i int) byte { return byte(sum >> (8 * i)) }

// copied tells a copy with some noughts behind it.
func copied(b []byte, noughts int) []byte {
	c := make([]byte, len(b)+noughts)
	copy(c, b)
	return c
}
