package wrap

import "slices"

const (
	modulus = 65521
	half    = 1 << 16 // what an Adler-32's higher number stands for
	safeRun = 5552    // so many bytes, whatever they are, are added ahead of a number that 32 bits don't hold
)

// adler tells the Adler-32 of data. Its two numbers are made small only behind each run, for that takes longer than to add.
func adler(data []byte) uint32 {
	a, b := uint32(1), uint32(0)
	for run := range slices.Chunk(data, safeRun) {
		for _, v := range run {
			a += uint32(v)
			b += a
		}
		a, b = a%modulus, b%modulus
	}
	return b*half + a
}

// joined tells the Adler-32 of two texts one behind the other. The second one's a began as 1, and behind the first one it begins as that one's a: what is between the two comes to its a once, and to its b with each of its n bytes.
func joined(first, second uint32, n int) uint32 {
	between := uint64(first%half) + modulus - 1
	a := (between + uint64(second%half)) % modulus
	b := (uint64(first/half) + uint64(second/half) + uint64(n)*between) % modulus
	return uint32(b*half + a)
}
