// Package vint is layer 1: see shared/doc/01-vint.md.
package vint

import (
	"math/bits"

	"haruspex/api"
)

const (
	width = 7          // bits of a number in each of its bytes
	more  = 1 << width // in each byte but the last
	tenth = 9          // the place of the byte that has only the 64th bit left to hold
)

// moved serves both kinds of numbers, as they differ only in what comes in from above: copies of the sign (Turn spreads it so), or zeros.
func moved[T int64 | uint64](n T, up int) T {
	if up < 0 {
		return n >> uint(-up)
	}
	return n << uint(up)
}

func Size(n uint64) int {
	// 0 has no bits, and yet a byte, as 1 has.
	return (bits.Len64(n|1) + width - 1) / width
}

// Put answers new memory: b may have room behind it that somebody else writes to.
func Put(b []byte, n uint64) []byte {
	out := make([]byte, len(b), len(b)+Size(n))
	copy(out, b)
	for n >= more {
		out = append(out, byte(n)|more)
		n = moved(n, -width)
	}
	return append(out, byte(n))
}

func Get(b []byte, at int) (uint64, int, api.Errno) {
	if at < 0 || at > len(b) {
		return 0, 0, api.ErrArg
	}
	var n uint64
	next, e := len(b), api.ErrShort
read:
	for i, c := range b[at:] {
		n |= moved(uint64(c&^more), i*width)
		switch {
		case !goesOn(i, c):
			next, e = at+i, api.ErrForm
			break read
		case c < more:
			next, e = at+i+1, api.OK
			break read
		}
	}
	if e != api.OK {
		n = 0
	}
	return n, next, e
}

// goesOn refuses the tenth byte with a sign that more come, too: whatever came, the number would have bits beyond 64 or end with a 0.
func goesOn(i int, c byte) bool {
	return i == 0 || i < tenth && c != 0 || i == tenth && c == 1
}

func Turn(n int64) uint64 {
	// -2n - 1 is 2n with all bits turned over, so the sign, spread over all bits, turns what it must.
	return uint64(moved(n, 1) ^ moved(n, -63))
}

func Back(n uint64) int64 {
	return int64(moved(n, -1) ^ -(n & 1))
}

func PutInt(b []byte, n int64) []byte {
	return Put(b, Turn(n))
}

func GetInt(b []byte, at int) (int64, int, api.Errno) {
	n, next, e := Get(b, at)
	return Back(n), next, e
}
