// Package zig: whole numbers of many widths: see doc/01-zig.md.
package zig

// Zig folds the numbers below 0 in between the others: 0, -1, 1, -2, .. become 0, 1, 2, 3, ..
func Zig(n int64) uint64 {
	// The sign, spread over all bits, turns -2n - 1 out of 2n without a sum
	// that could wrap.
	return uint64(n)<<1 ^ uint64(n>>63)
}

// Zag is the way back from Zig.
func Zag(u uint64) int64 {
	return int64(u>>1) ^ -int64(u&1)
}

// Narrow takes the lowest width bits of n as a number of two's complement; 0 where there is no such width.
func Narrow(n int64, width int) int64 {
	if width < 1 || width > 64 {
		return 0
	}
	// An int64 comes back to the right with its sign, which is by now the
	// highest of the width bits.
	rest := uint(64 - width)
	return n << rest >> rest
}

// Wide is Narrow of u's bits.
func Wide(u uint64, width int) int64 {
	return Narrow(int64(u), width)
}

// Fit tells whether Narrow leaves n as it is.
func Fit(n int64, width int) bool {
	return Narrow(n, width) == n
}

// Turn turns u's bits to the left.
func Turn(u uint32, by int) uint32 {
	// The lowest five bits are the remainder from 0 on, below 0 too, where
	// the sign of % would be wrong.
	left := uint(by) & 31
	return u<<left | u>>(32-left)
}

// Bytes8 lays n out in eight bytes, the highest first.
func Bytes8(n int64) [8]byte {
	var b [8]byte
	u := uint64(n)
	for i := range b {
		b[i] = byte(u >> (56 - 8*uint(i)))
	}
	return b
}

// Of8 is the way back from Bytes8.
func Of8(b [8]byte) int64 {
	var u uint64
	for _, x := range b {
		u = u<<8 | uint64(x)
	}
	return int64(u)
}
