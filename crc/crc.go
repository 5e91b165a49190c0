// Package crc has the sums of blocks and streams.
package crc

import "baler/api"

// poly is what a bit that goes out changes in a sum.
const poly = 0x04c11db7

// Table has for each byte what eight steps make of it.
func Table() [256]uint32 {
	var t [256]uint32
	for i := range len(t) {
		t[i] = eightSteps(uint32(i) << 24)
	}
	return t
}

// eightSteps shifts a number up by eight bits, one by one.
func eightSteps(n uint32) uint32 {
	for range 8 {
		out := n >> 31
		n = n<<1 ^ out*poly
	}
	return n
}

// Step is what a byte makes of a sum, by a table, ahead of the last turning.
func Step(t *[256]uint32, sum uint32, b byte) (uint32, api.Errno) {
	if t == nil {
		return 0, api.ErrState
	}
	return next(t, sum, b), api.OK
}

// next is Step of a table that is there.
func next(t *[256]uint32, sum uint32, b byte) uint32 {
	return sum<<8 ^ t[byte(sum>>24)^b]
}

// Of is the sum of bytes.
func Of(s string) uint32 {
	t := Table()
	return further(&t, 0, s)
}

// further is the sum of bytes behind those of which there is a sum.
func further(t *[256]uint32, sum uint32, s string) uint32 {
	n := ^sum
	for i := range len(s) {
		n = next(t, n, s[i])
	}
	return ^n
}

// Combine is what a block's sum makes of a stream's.
func Combine(total, block uint32) uint32 {
	return (total<<1 | total>>31) ^ block
}

// Stream is a stream's sum, from those of its blocks in order.
func Stream(blocks []uint32) uint32 {
	var total uint32
	for _, b := range blocks {
		total = Combine(total, b)
	}
	return total
}

// Sum is the sum of bytes that come one by one.
type Sum struct {
	table *[256]uint32 // nil ahead of the first byte, as in a Sum that New did not make
	value uint32
}

// New is the sum of no bytes.
func New() *Sum { return &Sum{} }

// Put puts a byte.
func (s *Sum) Put(b byte) { s.Text(string([]byte{b})) }

// Text puts bytes.
func (s *Sum) Text(t string) {
	if s == nil {
		return
	}
	if s.table == nil {
		table := Table()
		s.table = &table
	}
	s.value = further(s.table, s.value, t)
}

// Value is the sum of all bytes that were put since it was made, or reset.
func (s *Sum) Value() uint32 {
	if s == nil {
		return 0
	}
	return s.value
}

// Reset forgets all bytes.
func (s *Sum) Reset() {
	if s == nil {
		return
	}
	s.value = 0
}
