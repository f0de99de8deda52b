// Package crc is layer 1: see shared/doc/01-crc.md.
package crc

// poly is Castagnoli's polynomial, its bits turned round, as the row goes to the lower side.
const poly = 0x82f63b78

// width is how many bytes a sum has.
const width = 4

// More is the sum of some bytes, and of others behind them.
func More(sum uint32, b []byte) uint32 {
	// Turned round again, a sum is the row as it stood behind the bytes ahead.
	row := ^sum
	for _, x := range b {
		row = step(row ^ uint32(x))
	}
	return ^row
}

// Sum is the sum of bytes.
func Sum(b []byte) uint32 {
	// The sum of nothing is 0: a row of ones, turned round.
	return More(0, b)
}

// Mark is bytes, and their sum behind them.
func Mark(b []byte) []byte {
	out := make([]byte, 0, len(b)+width)
	out = append(out, b...)
	for _, x := range written(Sum(b)) {
		out = append(out, x)
	}
	return out
}

// Fits tells whether bytes end with their sum.
func Fits(b []byte) bool {
	if len(b) < width {
		return false
	}
	end := len(b) - width
	for i, x := range written(Sum(b[:end])) {
		if b[end+i] != x {
			return false
		}
	}
	return true
}

// step moves a row by a byte's eight bits.
func step(row uint32) uint32 {
	for range 8 {
		out := row & 1
		row >>= 1
		if out == 1 {
			row ^= poly
		}
	}
	return row
}

// written is a sum's bytes, the lowest first.
func written(sum uint32) [width]byte {
	var w [width]byte
	for i := range width {
		w[i] = byte(sum >> (8 * i))
	}
	return w
}
