package inflate_test

import (
	"slices"
	"testing"

	"valise/api"
	"valise/inflate"
)

func answers(t *testing.T, data []byte, limit int, want string, used int) {
	t.Helper()
	if out, n, e := agree(t, data, limit); string(out) != want || n != used || e != api.OK {
		t.Errorf("Inflate(% x, %d) = %q, %d, %d, want %q, %d", data, limit, out, n, e, want, used)
	}
}

func answersError(t *testing.T, data []byte, limit int, want api.Errno) {
	t.Helper()
	if out, n, e := agree(t, data, limit); out != nil || n != 0 || e != want {
		t.Errorf("Inflate(% x, %d) = %q, %d, %d, want %d", data, limit, out, n, e, want)
	}
}

func TestExampleFixed(t *testing.T) { // examples 1 and 2
	answers(t, []byte{0x03, 0x00}, 0, "", 10)
	letter := []byte{0x4B, 0x04, 0x00}
	answers(t, letter, 1, "a", 18)
	answersError(t, letter, 0, api.ErrInfLimit)
	answersError(t, letter, -1, api.ErrArg)
}

func TestExampleStored(t *testing.T) { // example 3
	hi := []byte{0x01, 0x02, 0x00, 0xFD, 0xFF, 0x68, 0x69}
	answers(t, hi, 2, "hi", 56)
	answersError(t, hi, 1, api.ErrInfLimit)
	answersError(t, hi[:6], 1, api.ErrInfLimit)
	answersError(t, hi[:5], 1, api.ErrInfLimit)
	answersError(t, hi[:6], 2, api.ErrInfEnd)
	answersError(t, []byte{0x01, 0x02, 0x00, 0xFC, 0xFF, 0x68, 0x69}, 2, api.ErrInfStored)
	answersError(t, hi[:4], 0, api.ErrInfEnd)
}

func TestExampleFirstBits(t *testing.T) { // example 4
	answersError(t, []byte{0x07}, 9, api.ErrInfKind)
	answersError(t, nil, 9, api.ErrInfEnd)
	answersError(t, []byte{0x01}, 9, api.ErrInfEnd)
}

func TestExampleTwoBlocks(t *testing.T) { // example 5
	data := []byte{0x00, 0x00, 0x00, 0xFF, 0xFF, 0x03, 0x00}
	answers(t, data, 0, "", 50)
	pieces, e := inflate.Walk(data, 0)
	if want := []api.Piece{{Kind: 0, Final: false, From: 0, To: 40, Start: 0, End: 0}, {Kind: 1, Final: true, From: 40, To: 50, Start: 0, End: 0}}; e != api.OK || !slices.Equal(pieces, want) {
		t.Errorf("Walk = %v, %d, want %v", pieces, e, want)
	}
}

func TestExampleExact(t *testing.T) { // example 6
	exact(t, []byte{0x4B, 0x04, 0x00}, 1, "a", api.OK)
	exact(t, []byte{0x4B, 0x04, 0x00}, 0, "", api.ErrInfLimit)
	exact(t, []byte{0x4B, 0x04, 0x00}, 2, "", api.ErrInfSize)
	exact(t, []byte{0x4B, 0x04, 0x00, 0x00}, 1, "", api.ErrInfRest)
	answers(t, []byte{0x4B, 0x04, 0x00, 0x00}, 5, "a", 18)
}

func TestExampleCopies(t *testing.T) { // examples 7 and 8
	answers(t, []byte{0x4B, 0x04, 0x02, 0x00}, 4, "aaaa", 30)
	answersError(t, []byte{0x03, 0x02, 0x00}, 9, api.ErrInfFar)
	answersError(t, []byte{0x03, 0x02, 0x00}, 0, api.ErrInfFar)
	answersError(t, []byte{0x1B, 0x03}, 9, api.ErrInfSymbol)
}
