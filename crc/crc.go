// Package crc has a check sum, CRC32C. See shared/doc/02-crc.md.
package crc

import (
	"keelson/api"
	"keelson/octet"
)

const (
	castagnoli = 0x82f63b78 // the polynomial, its lowest bit standing highest
	sumWidth   = 4
)

// Sum tells the check sum of b.
func Sum(b []byte) uint32 {
	return More(0, b)
}

// More tells the sum of a text that goes on with b, sum being that of what lies ahead.
func More(sum uint32, b []byte) uint32 {
	table := fours()
	n := ^sum
	for _, x := range b {
		n ^= uint32(x)
		n = n>>4 ^ table[n&15]
		n = n>>4 ^ table[n&15]
	}
	return ^n
}

// fours tells what each four bits make of a sum. What lies above them only moves down, so that a byte takes two looks instead of eight steps.
func fours() [16]uint32 {
	four := func(n uint32) uint32 {
		for range 4 {
			low := n & 1
			n >>= 1
			if low == 1 {
				n ^= castagnoli
			}
		}
		return n
	}
	var table [16]uint32
	for i := range len(table) {
		table[i] = four(uint32(i))
	}
	return table
}

// Seal tells b, and its sum behind it.
func Seal(b []byte) []byte {
	return octet.Put(b, sumWidth, uint64(Sum(b)))
}

// Open tells what was sealed.
func Open(b []byte) ([]byte, api.Errno) {
	if len(b) < sumWidth {
		return nil, api.ErrForm
	}
	r := octet.Read(b)
	text := r.Take(len(b) - sumWidth)
	if r.Num(sumWidth) != uint64(Sum(text)) {
		return nil, api.ErrSum
	}
	return text, api.OK
}
