package record_test

import (
	"math"
	"testing"

	"valise/api"
	"valise/record"
)

const sign = "PK\x07\x08"

func describes(t *testing.T, l api.Local, signed bool, text string, want api.Errno) {
	t.Helper()
	if b, e := record.PutDescriptor(l, signed); string(b) != text || e != want || e != api.OK && b != nil {
		t.Errorf("PutDescriptor(%.80v, %t) = %x, %d, want %x, %d", l, signed, b, e, text, want)
	}
}

func found(t *testing.T, data string, at int, l api.Local, n int, want api.Errno) {
	t.Helper()
	if got, e := record.GetDescriptor([]byte(data), at, l); got != n || e != want {
		t.Errorf("GetDescriptor(%.60q, %d, %.80v) = %d, %d, want %d, %d", data, at, l, got, e, n, want)
	}
}

// odd is a local header of which nothing but the sum and the sizes may be put down.
func odd(sum uint32, packed, size int) api.Local {
	return api.Local{Need: -1, Flags: 65536, Method: math.MinInt, Clock: math.MaxInt, Date: -7, Sum: sum, Packed: packed, Size: size,
		Name: string(make([]byte, 65536)), Extra: string(make([]byte, 65537))}
}

func TestPutDescriptor(t *testing.T) { // P12.10: each field whole, and the other fields don't count
	for _, c := range []struct {
		l    api.Local
		text string
	}{
		{api.Local{}, "\x00\x00\x00\x00\x00\x00\x00\x00\x00\x00\x00\x00"},
		{odd(0x04030201, 0x14131211, 0x24232221), "\x01\x02\x03\x04\x11\x12\x13\x14\x21\x22\x23\x24"},
		{odd(math.MaxUint32, 0, 0), "\xff\xff\xff\xff\x00\x00\x00\x00\x00\x00\x00\x00"},
		{odd(0, api.MaxField, 0), "\x00\x00\x00\x00\xff\xff\xff\xff\x00\x00\x00\x00"},
		{odd(0, 0, api.MaxField), "\x00\x00\x00\x00\x00\x00\x00\x00\xff\xff\xff\xff"},
	} {
		describes(t, c.l, false, c.text, api.OK)
		describes(t, c.l, true, sign+c.text, api.OK)
		for _, ahead := range []string{"", "x", "PK", sign + "y"} {
			found(t, ahead+sign+c.text, len(ahead), c.l, 16, api.OK)
			found(t, ahead+sign+c.text+"z", len(ahead), c.l, 16, api.OK)
			found(t, ahead+c.text, len(ahead), c.l, 12, api.OK)
			found(t, ahead+c.text+"z", len(ahead), c.l, 12, api.OK)
		}
	}
}

func TestDescriptorWide(t *testing.T) { // P12.10, P12.11: ErrRecWide ahead of what stands there, behind ErrArg
	for _, v := range []int{-1, api.MaxField + 1, math.MinInt, math.MaxInt, 1<<33 + 3} {
		for _, l := range []api.Local{{Packed: v}, {Size: v}, {Packed: v, Size: v}} {
			describes(t, l, true, "", api.ErrRecWide)
			describes(t, l, false, "", api.ErrRecWide)
			for _, data := range []string{"", "x", string(make([]byte, 12)), sign + string(make([]byte, 12)), sign + "\xff\xff\xff\xff\xff\xff\xff\xff\xff\xff\xff\xff"} {
				found(t, data, 0, l, 0, api.ErrRecWide)
				found(t, data, len(data), l, 0, api.ErrRecWide)
				found(t, data, len(data)+1, l, 0, api.ErrArg)
				found(t, data, -1, l, 0, api.ErrArg)
			}
		}
	}
}

func TestDescriptorPlaces(t *testing.T) { // P12.11
	l := api.Local{Sum: 1, Packed: 2, Size: 3}
	text := sign + "\x01\x00\x00\x00\x02\x00\x00\x00\x03\x00\x00\x00"
	for n := range len(text) {
		want := api.ErrRecSig // the signature isn't what the sum would be
		if n < 12 {
			want = api.ErrRecShort
		}
		found(t, text[:n], 0, l, 0, want)
	}
	for n := range 12 {
		found(t, text[4:4+n], 0, l, 0, api.ErrRecShort)
	}
	for at := 1; at <= 16; at++ {
		switch {
		case at == 4:
			found(t, text, at, l, 12, api.OK)
		case at > 4:
			found(t, text, at, l, 0, api.ErrRecShort)
		default:
			found(t, text, at, l, 0, api.ErrRecSig)
		}
	}
	for _, at := range []int{-1, math.MinInt, 17, 1 << 40, math.MaxInt} {
		found(t, text, at, l, 0, api.ErrArg)
	}
	found(t, "", 0, l, 0, api.ErrRecShort)
	found(t, "", 1, l, 0, api.ErrArg)
}

func TestDescriptorBits(t *testing.T) { // P12.11: a single bit that is another one
	l := api.Local{Sum: 0x01020304, Packed: 5, Size: 6}
	signed, _ := record.PutDescriptor(l, true)
	for bit := range 8 * len(signed) {
		other := []byte(string(signed))
		other[bit/8] ^= 1 << (bit % 8)
		found(t, string(other), 0, l, 0, api.ErrRecSig)
		if bit >= 32 {
			found(t, string(other[4:]), 0, l, 0, api.ErrRecSig)
		}
	}
}

func TestDescriptorTwoForms(t *testing.T) { // P12.11: a sum that looks like the signature; the signed form is ahead
	l := api.Local{Sum: 0x08074b50, Packed: 0x08074b50, Size: 7}
	text := sign + sign + "\x07\x00\x00\x00"
	found(t, text, 0, l, 12, api.OK)
	found(t, sign+text, 0, l, 16, api.OK)
	found(t, sign+text, 4, l, 12, api.OK)
	all := api.Local{Sum: 0x08074b50, Packed: 0x08074b50, Size: 0x08074b50}
	found(t, sign+sign+sign+sign, 0, all, 16, api.OK)
	found(t, sign+sign+sign, 0, all, 12, api.OK)
	found(t, sign+sign+sign+"PK\x07", 0, all, 12, api.OK)
	found(t, sign+sign+"PK\x07", 0, all, 0, api.ErrRecShort)
}
