package inflate_test

import (
	"math/rand"
	"strings"
	"testing"

	"valise/api"
)

// anyBytes is n bytes drawn by a seed.
func anyBytes(seed int64, n int) string {
	data := make([]byte, n)
	rand.New(rand.NewSource(seed)).Read(data)
	return string(data)
}

func TestStored(t *testing.T) { // P8.1
	for _, n := range []int{0, 1, 2, 255, 256, 257, 32768} {
		inflates(t, stored("", true, anyBytes(1, n)), anyBytes(1, n))
	}
	raw := anyBytes(2, api.MaxRaw)
	out, used, e := agree(t, bytesOf(stored("", true, raw)), api.MaxRaw)
	if string(out) != raw || used != 40+8*api.MaxRaw || e != api.OK {
		t.Errorf("of the greatest block: %d bytes, %d, %d", len(out), used, e)
	}
	inflates(t, stored(stored(stored("", false, "ab"), false, ""), true, "cd"), "abcd")
}

func TestStoredBorder(t *testing.T) { // chapter 8, 'Kind 0': what stands up to the border is left out, whatever it is
	for n := range 8 {
		text := empty(n) + "100"
		for _, fill := range []string{"0", "1"} {
			filled := text + strings.Repeat(fill, (8-len(text)%8)%8)
			if n == 5 && filled != text {
				t.Errorf("there is a fill at the border: %s", filled)
			}
			inflates(t, filled+row(2, 16)+row(65533, 16)+row('h', 8)+row('i', 8), "hi")
		}
	}
}

func TestStoredCutOff(t *testing.T) { // chapter 8, 'What goes wrong'
	for n := range 8 {
		border := empty(n) + "100"
		border += strings.Repeat("0", (8-len(border)%8)%8)
		for k := range 4 { // fewer than 32 bits behind the border: whatever they say, and ahead of the limit
			for _, bit := range []string{"0", "1"} {
				for _, limit := range []int{0, 1, 9, api.MaxCapacity} {
					answersError(t, bytesOf(border+strings.Repeat(bit, 8*k)), limit, api.ErrInfEnd)
				}
			}
		}
	}
}

func TestStoredNumbers(t *testing.T) { // chapter 8: they must fit one another, ahead of the limit and of the bytes
	head := "10000000"
	for _, n := range []int{0, 1, 2, 255, 256, 4660, 65534, 65535} {
		for bit := range 16 {
			text := head + row(n, 16) + row(65535-n^1<<bit, 16)
			for _, limit := range []int{0, 9, api.MaxCapacity} {
				answersError(t, bytesOf(text), limit, api.ErrInfStored)
				answersError(t, bytesOf(text+stored("", true, "abcdefgh")), limit, api.ErrInfStored)
			}
		}
		answersError(t, bytesOf(head+row(n, 16)+row(n, 16)), api.MaxCapacity, api.ErrInfStored)
	}
}

func TestStoredLimitAheadOfEnd(t *testing.T) { // chapter 8
	text := stored("", true, "abcdefgh")
	for k := range 9 {
		data := bytesOf(text)[:5+k]
		for limit := range 12 {
			switch {
			case limit < 8:
				answersError(t, data, limit, api.ErrInfLimit)
			case k < 8:
				answersError(t, data, limit, api.ErrInfEnd)
			default:
				answers(t, data, limit, "abcdefgh", 104)
			}
		}
	}
	ahead := stored(fixed(false, literals("xyz")), true, "abcdefgh") // what stands ahead counts too
	for limit := 3; limit < 11; limit++ {
		answersError(t, bytesOf(ahead), limit, api.ErrInfLimit)
		answersError(t, bytesOf(ahead)[:len(ahead)/8-1], limit, api.ErrInfLimit)
	}
	answersError(t, bytesOf(ahead)[:len(ahead)/8-1], 11, api.ErrInfEnd)
	inflates(t, ahead, "xyzabcdefgh")
}
