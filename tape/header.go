package tape

import (
	"strings"

	"valise/api"
)

const (
	recordBytes = 512
	endBytes    = 2 * recordBytes // behind the last entry

	kindAt  = 156
	magicAt = 257
	magic   = "ustar\x00" + "00" // the version stands right behind it
)

// header is a header record.
type header [recordBytes]byte

// place is where a field begins in a header, and how many bytes it has.
type place struct{ at, size int }

// The fields that are numbers, by where numbers has them.
const (
	modeNumber = iota
	ownerNumber
	groupNumber
	sizeNumber
	timeNumber
	majorNumber
	minorNumber
	sumNumber
	numberFields
)

// numbers has the place of each field that is a number.
var numbers = [numberFields]place{{100, 8}, {108, 8}, {116, 8}, {124, 12}, {136, 12}, {329, 8}, {337, 8}, {148, 8}}

// The fields that are texts, by where texts has them.
const (
	nameText = iota
	linkText
	userText
	teamText
	prefixText
	textFields
)

// texts has the place of each field that is a text.
var texts = [textFields]place{{0, 100}, {157, 100}, {265, 32}, {297, 32}, {345, 155}}

// entryBytes tells how many bytes a file of so many data bytes takes on a tape.
func entryBytes(size int) int { return recordBytes + dataBytes(size) }

// dataBytes tells how many bytes so many data bytes take in whole records.
func dataBytes(size int) int { return (size + recordBytes - 1) / recordBytes * recordBytes }

// headerOf is a sound file's header.
func headerOf(f api.File) header {
	var h header
	prefix, name, _ := cut(f.Name)
	for i, text := range [textFields]string{name, f.Link, f.User, f.Team, prefix} {
		copy(h[texts[i].at:], text)
	}
	for i, v := range [sumNumber]int{f.Mode, f.Owner, f.Group, len(f.Data), f.Time, 0, 0} {
		h.putNumber(numbers[i], v)
	}
	h[kindAt] = byte('0' + f.Kind)
	copy(h[magicAt:], magic)
	sum := numbers[sumNumber]
	h.putNumber(place{sum.at, sum.size - 1}, h.sum())
	h[sum.at+sum.size-1] = ' '
	return h
}

// putNumber writes a number that fits, ahead of a zero byte.
func (h *header) putNumber(p place, v int) {
	for at := p.at + p.size - 2; at >= p.at; at-- {
		h[at] = byte('0' + v%8)
		v /= 8
	}
}

// number reads a number.
func (h *header) number(p place) (v int, ok bool) {
	text := string(h[p.at : p.at+p.size])
	ended := strings.TrimRight(text, " \x00")
	if len(ended) == len(text) { // no byte stands behind the digits
		return 0, false
	}
	for _, c := range []byte(strings.TrimLeft(ended, " ")) {
		if c < '0' || c > '7' {
			return 0, false
		}
		v = v*8 + int(c-'0')
	}
	return v, true
}

// text reads a text. One that isn't ended as it should be comes with a zero byte in it, or too long, and so no file that it stands in is sound.
func (h *header) text(p place) string {
	return strings.TrimRight(string(h[p.at:p.at+p.size]), "\x00")
}

// sum tells the sum of all bytes. It blanks the field sum in a copy: a header is handed over as a value.
func (h header) sum() int {
	p := numbers[sumNumber]
	copy(h[p.at:p.at+p.size], strings.Repeat(" ", p.size))
	n := 0
	for _, b := range h {
		n += int(b)
	}
	return n
}
