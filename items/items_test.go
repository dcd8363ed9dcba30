package items_test

import (
	"math"
	"testing"

	"valise/api"
	"valise/bits"
	"valise/items"
)

// next asks what the next item says behind a plain text, and where the reader stands then.
func next(t *testing.T, text *items.Text, r *bits.Reader, plain, want string, at int, done bool) {
	t.Helper()
	out, e := text.Next(r, []byte(plain), math.MaxInt)
	if string(out) != want || e != api.OK || r.At() != at || text.Done() != done {
		t.Errorf("Next = %q, %d, then at %d, %v, want %q, %d, %v", out, e, r.At(), text.Done(), want, at, done)
	}
}

// stops asks for the error of the next item: nothing has changed by it, so it comes again.
func stops(t *testing.T, text *items.Text, data []byte, skip int, plain string, room int, want api.Errno) {
	t.Helper()
	was := *text
	for range 2 {
		r := bits.NewReader(data)
		r.Skip(skip)
		if out, e := text.Next(r, []byte(plain), room); string(out) != plain || e != want || *text != was {
			t.Errorf("Next = %q, %d, want %q, %d", out, e, plain, want)
		}
	}
}

func TestItemByItem(t *testing.T) { // chapter 18, 'What some bytes fix'
	data := []byte{0x4B, 0x04, 0x02, 0x00} // a, a copy of 3 from 1 back, the end
	var text items.Text
	r := bits.NewReader(data)
	stops(t, &text, nil, 0, "x", 9, api.ErrInfEnd)
	stops(t, &text, []byte{7}, 0, "x", 9, api.ErrInfKind)
	next(t, &text, r, "", "", 3, false)
	stops(t, &text, data[:1], 3, "", 9, api.ErrInfEnd)
	stops(t, &text, data, 3, "", 0, api.ErrInfLimit)
	next(t, &text, r, "", "a", 11, false)
	stops(t, &text, data[:2], 11, "a", 9, api.ErrInfEnd)
	stops(t, &text, data, 11, "", 9, api.ErrInfFar)
	stops(t, &text, data, 11, "a", 2, api.ErrInfLimit)
	next(t, &text, r, "a", "aaaa", 23, false)
	next(t, &text, r, "aaaa", "aaaa", 30, true)
	next(t, &text, r, "aaaa", "aaaa", 30, true) // there is nothing more
}

func TestStoredItems(t *testing.T) { // chapter 18: all bytes that are there at one go
	data := []byte{0x01, 0x03, 0x00, 0xFC, 0xFF, 'x', 'y', 'z'}
	var text items.Text
	next(t, &text, bits.NewReader(data), "", "", 3, false)
	stops(t, &text, data[:4], 3, "", 9, api.ErrInfEnd)
	stops(t, &text, data, 3, "", 2, api.ErrInfLimit)
	r := bits.NewReader(data[:7])
	r.Skip(3)
	next(t, &text, r, "", "", 40, false)
	next(t, &text, r, "", "xy", 56, false)
	stops(t, &text, data[:7], 56, "xy", 9, api.ErrInfEnd)
	r = bits.NewReader(data)
	r.Skip(56)
	next(t, &text, r, "xy", "xyz", 64, true)
}

func TestHeaderItem(t *testing.T) { // chapter 18: a header is one item
	var text items.Text
	next(t, &text, bits.NewReader([]byte{4}), "", "", 3, false)
	stops(t, &text, []byte{4}, 3, "", 9, api.ErrHeadEnd)
	stops(t, &text, []byte{0xFC, 0xFF, 0xFF}, 3, "", 9, api.ErrHeadCounts)
}

func TestNil(t *testing.T) {
	var none *items.Text
	if out, e := none.Next(bits.NewReader(nil), []byte("a"), 1); string(out) != "a" || e != api.ErrArg || none.Done() {
		t.Errorf("Next of nil: %q, %d, %v", out, e, none.Done())
	}
	var text items.Text
	if out, e := text.Next(nil, nil, 1); out != nil || e != api.ErrArg {
		t.Errorf("Next of a nil reader: %q, %d", out, e)
	}
}
