package wrap

import (
	"bytes"

	"valise/api"
)

const (
	zlibHeadBytes  = 2
	zlibMethod     = 8  // in the low four bits of the first byte
	zlibMostWindow = 7  // above them
	zlibDictionary = 32 // of the second byte: a dictionary is needed
	zlibHint       = 64 // of the second byte: what a hint counts
	zlibCheck      = 31 // divides the two bytes of a head, as one number
	sumSize        = 4  // bytes of an Adler-32
)

// hints has what a head says of each level.
var hints = [api.MaxLevel + 1]int{0, 0, 1, 1, 1, 1, 2, 3, 3, 3}

// zlibHead is the two bytes ahead of a text that was packed at a level.
func zlibHead(level int) []byte {
	head := (zlibMostWindow<<4|zlibMethod)<<8 + hints[level]*zlibHint
	head += (zlibCheck - head%zlibCheck) % zlibCheck
	return []byte{byte(head >> 8), byte(head)}
}

// checkZlibHead tells what is wrong with the head that data begins with.
func checkZlibHead(data []byte) api.Errno {
	if len(data) < zlibHeadBytes {
		return api.ErrWrapShort
	}
	first, second := int(data[0]), int(data[1])
	switch {
	case first&15 != zlibMethod, first>>4 > zlibMostWindow, (first<<8+second)%zlibCheck != 0:
		return api.ErrWrapHead
	case second&zlibDictionary != 0:
		return api.ErrWrapField
	}
	return api.OK
}

// checkZlibTail tells what is wrong with the bytes behind a packed text.
func checkZlibTail(tail, plain []byte) api.Errno {
	switch {
	case len(tail) < sumSize:
		return api.ErrWrapShort
	case !bytes.Equal(tail[:sumSize], sumBytes(adler(plain))):
		return api.ErrWrapSum
	case len(tail) > sumSize:
		return api.ErrInfRest
	}
	return api.OK
}

// sumBytes is an Adler-32's bytes, the highest first: so field's buffer, which puts the lowest first, doesn't put it.
func sumBytes(sum uint32) []byte {
	return []byte{byte(sum >> 24), byte(sum >> 16), byte(sum >> 8), byte(sum)}
}
