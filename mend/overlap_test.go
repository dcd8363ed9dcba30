package mend_test

import (
	"slices"
	"strings"
	"testing"

	"valise/api"
)

// nest is a stored part whose bytes are the extents of others, with bytes ahead of each, and the places at which these stand in its own extent.
func nest(name string, inner ...part) (part, []int) {
	var data strings.Builder
	var places []int
	for _, x := range inner {
		data.WriteString("..")
		places = append(places, 30+len(name)+data.Len())
		data.WriteString(x.extent())
	}
	return stored(name, data.String()), places
}

// sharing is the file of parts, and of records besides that lead to these places; the records in this order.
func sharing(order []int, parts []part, inner []part, places []int) string {
	f := frame{order: order}
	n := len(parts)
	f.record = func(i int, c *api.Central) {
		if i >= n {
			c.At = places[i-n]
		}
	}
	return f.lay(append(slices.Clone(parts), inner...)...) // the inner ones are laid down once more, and these bytes are a gap
}

func TestAuditOverlap(t *testing.T) { // P26.1, 7: of each that has a byte in common with one ahead of it in the directory's order
	a, b := stored("a", "hi"), stored("b", "bye")
	out, places := nest("out", a, b) // a at 35, b at 70
	inner := []part{a, b}
	audits(t, sharing([]int{0, 1, 2}, []part{out}, inner, places), at(137, 35, "a"), at(137, 70, "b"))
	audits(t, sharing([]int{1, 2, 0}, []part{out}, inner, places), at(137, 0, "out"))
	audits(t, sharing([]int{2, 0, 1}, []part{out}, inner, places), at(137, 0, "out"), at(137, 35, "a"))
	audits(t, sharing([]int{1, 0, 2}, []part{out}, inner, places), at(137, 0, "out"), at(137, 70, "b"))
	audits(t, sharing([]int{2, 1, 0}, []part{out}, inner, places), at(137, 0, "out"))
}

func TestAuditOverlapSound(t *testing.T) { // P26.1, 7: damaged ones count, and ones that are not sound in form do not; all these come behind all others
	a, b := stored("a", "hi"), stored("b", "bye")
	out, places := nest("out", a, b)
	broken := out
	broken.record.Sum++
	inner := []part{a, b}
	audits(t, sharing([]int{0, 1, 2}, []part{broken}, inner, places), at(136, 0, "out"))
	audits(t, sharing([]int{1, 0, 2}, []part{broken}, inner, places), at(136, 0, "out"))
	broken.local.Sum++
	audits(t, sharing([]int{0, 1, 2}, []part{broken}, inner, places), at(170, 0, "out"), at(137, 35, "a"), at(137, 70, "b"))
	audits(t, sharing([]int{1, 0, 2}, []part{broken}, inner, places), at(170, 0, "out"), at(137, 0, "out"), at(137, 70, "b"))
	wrong := stored("a\\", "hi")
	out, places = nest("out", wrong, b)
	file := sharing([]int{1, 0, 2}, []part{out}, []part{wrong, b}, places)
	audits(t, file, at(134, strings.Index(file, "PK\x01\x02"), "a\\"), at(137, places[1], "b"))
}

func TestAuditOverlapEdge(t *testing.T) { // P26.1, 7: by one byte, and by none
	a := stored("a", "hi")
	b := stored("b", "bye")
	shared := told(a, func(c *api.Central) { c.Packed, c.Size = 3, 3 })
	shared.local.Packed, shared.local.Size = 3, 3 // the third byte is the next entry's first one
	shared.record.Sum = sumOf("hiP")
	shared.local.Sum = shared.record.Sum
	audits(t, laid(shared, b), at(137, 33, "b"))
	audits(t, frame{order: []int{1, 0}}.lay(shared, b), at(137, 0, "a"))
	audits(t, laid(a, b))
	audits(t, frame{order: []int{1, 0}}.lay(a, b))
}

// sumOf is the sum of a text.
func sumOf(text string) uint32 { return stored("", text).record.Sum }

func TestAuditOverlapDescriptor(t *testing.T) { // P26.1, 7: a descriptor is of the extent
	a := packedAs("a", "", "\x03\x00")
	a.record.Size = 0x04034b50 // the number of a local header's signature
	y := late(a, false)
	y.behind = y.behind[:8] // the next entry's first four bytes are the descriptor's last ones
	audits(t, laid(y, stored("b", "")), at(170, 0, "a"), at(137, 30+1+2+8, "b"))
	audits(t, frame{order: []int{1, 0}}.lay(y, stored("b", "")), at(170, 0, "a"), at(137, 0, "a"))
}

func TestAuditOverlapMany(t *testing.T) { // P26.1, 7: one within the other, and one behind the other, in all orders
	x := stored("e", "deep")
	var inner []part
	var places []int
	for _, name := range []string{"d", "c", "b"} {
		inner = append(inner, x)
		places = append(places, 0)
		x = stored(name, x.extent())
	}
	for i := range inner { // e is three headers deep, d two, c one
		places[i] = 31 * (len(inner) - i)
	}
	audits(t, sharing([]int{0, 1, 2, 3}, []part{x}, inner, places), at(137, 93, "e"), at(137, 62, "d"), at(137, 31, "c"))
	audits(t, sharing([]int{1, 2, 3, 0}, []part{x}, inner, places), at(137, 62, "d"), at(137, 31, "c"), at(137, 0, "b"))
	audits(t, sharing([]int{2, 3, 0, 1}, []part{x}, inner, places), at(137, 31, "c"), at(137, 0, "b"), at(137, 93, "e"))
}
