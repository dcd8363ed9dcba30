package texts

import (
	"slices"

	"valise/field"
)

// stride is how many bytes apart the places are up to which sums are kept.
const stride = 64

// sums tells the CRC-32 of any part of a file without going through it: there may be thousands of local headers that each claim all that stands behind them.
type sums struct {
	file  []byte
	heads []uint32 // of the first i * stride bytes
}

func newSums(file []byte) sums {
	sum := field.Sum(nil)
	heads := []uint32{sum}
	for part := range slices.Chunk(file, stride) {
		sum = field.Update(sum, part)
		heads = append(heads, sum)
	}
	return sums{file, heads}
}

// ahead tells the sum of all bytes ahead of a place.
func (s sums) ahead(at int) uint32 {
	i := at / stride
	return field.Update(s.heads[i], s.file[i*stride:at])
}

// of tells the sum of the bytes from one place up to another. To join two sums is to move the first one and to put it into the second by exclusive or: so joined with the first part's sum, the whole's becomes that of the second part.
func (s sums) of(from, to int) uint32 {
	sum, _ := field.Join(s.ahead(from), s.ahead(to), to-from)
	return sum
}
