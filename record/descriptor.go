package record

import (
	"bytes"

	"valise/api"
	"valise/field"
)

const (
	signBytes       = 4
	descriptorBytes = 12 // without the signature
)

// PutDescriptor tells the bytes that say an entry's sum and sizes behind its packed bytes, with a signature ahead or without.
func PutDescriptor(l api.Local, signed bool) ([]byte, api.Errno) {
	b := field.NewBuffer(signBytes + descriptorBytes)
	if signed {
		b.U32(descriptorSign)
	}
	putSizes(b, l)
	return taken(b)
}

// GetDescriptor tells how many bytes the descriptor of an entry has that stands at a place.
func GetDescriptor(data []byte, at int, l api.Local) (int, api.Errno) {
	if at < 0 || at > len(data) {
		return 0, api.ErrArg
	}
	signed, e := PutDescriptor(l, true)
	if e != api.OK {
		return 0, e
	}
	there, bare := data[at:], signed[signBytes:]
	switch {
	case bytes.HasPrefix(there, signed):
		return len(signed), api.OK
	case bytes.HasPrefix(there, bare):
		return len(bare), api.OK
	case len(there) < len(bare):
		return 0, api.ErrRecShort
	}
	return 0, api.ErrRecSig
}
