package field

import (
	"slices"
	"sync"

	"valise/api"
)

const (
	feedback  = 0xEDB88320 // what a bit that falls out of the register puts into it
	maxChunks = 1024       // so many goroutines Gather starts at most
)

// table tells what eight moves make of a register that holds a single byte.
var table = singles()

func singles() [256]uint32 {
	var out [256]uint32
	for i := range out {
		reg := uint32(i)
		for range 8 {
			reg = move(reg)
		}
		out[i] = reg
	}
	return out
}

// move takes the register one bit to the right.
func move(reg uint32) uint32 {
	if reg&1 == 1 {
		return reg>>1 ^ feedback
	}
	return reg >> 1
}

// Sum tells the CRC-32 of data.
func Sum(data []byte) uint32 { return Update(0, data) }

// Update tells the CRC-32 of what had the sum, with data behind it.
func Update(sum uint32, data []byte) uint32 {
	reg := ^sum
	for _, b := range data {
		reg = table[byte(reg)^b] ^ reg>>8
	}
	return ^reg
}

// Join tells the CRC-32 of two texts one behind the other, from their sums and the second one's length.
func Join(first, second uint32, n int) (uint32, api.Errno) {
	if n < 0 || n > api.MaxCapacity {
		return 0, api.ErrArg
	}
	reg := first
	moves := uint32(1) << (31 - 8) // a byte's eight moves, as a factor
	for ; n > 0; n >>= 1 {
		if n&1 == 1 {
			reg = product(moves, reg)
		}
		moves = product(moves, moves)
	}
	return reg ^ second, api.OK
}

// product multiplies two registers as polynomials modulo the sum's own, the highest bit being 1, the next one x and so on. A move is then a multiplication by x, so that many moves are one product, by a power of x that squaring soon reaches.
func product(a, b uint32) uint32 {
	out := uint32(0)
	for ; a != 0; a <<= 1 {
		if a>>31 == 1 {
			out ^= b
		}
		b = move(b)
	}
	return out
}

// Gather tells the CRC-32 of data, each chunk of so many bytes summed by a goroutine of its own.
func Gather(data []byte, chunk int) (uint32, api.Errno) {
	if chunk < 1 || len(data) > api.MaxCapacity || (len(data)-1)/chunk >= maxChunks {
		return 0, api.ErrArg
	}
	chunks := slices.Collect(slices.Chunk(data, chunk))
	sum := uint32(0)
	for i, s := range sums(chunks) {
		sum, _ = Join(sum, s, len(chunks[i]))
	}
	return sum, api.OK
}

// sums tells the sum of each chunk.
func sums(chunks [][]byte) []uint32 {
	out := make([]uint32, len(chunks))
	var workers sync.WaitGroup
	for i, c := range chunks {
		workers.Go(func() { out[i] = Sum(c) })
	}
	workers.Wait()
	return out
}
