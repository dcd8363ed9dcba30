package mend_test

import (
	"strconv"
	"strings"
	"testing"
	"time"

	"valise/api"
	"valise/mend"
	"valise/record"
)

// counted asks Audit of a great file for so many findings of each kind, and in good time.
func counted(t *testing.T, file string, want map[api.Errno]int) {
	t.Helper()
	begin := time.Now()
	findings, e := mend.Audit([]byte(file))
	got := map[api.Errno]int{}
	for _, x := range findings {
		got[x.Code]++
	}
	for code := range got {
		if got[code] != want[code] {
			t.Errorf("Audit of %d bytes: %d findings %d, want %d", len(file), got[code], int(code), want[code])
		}
	}
	if len(got) != len(want) || e != api.OK {
		t.Errorf("Audit of %d bytes: %d kinds of findings, %d, want %d", len(file), len(got), int(e), len(want))
	}
	if took := time.Since(begin); took > time.Minute {
		t.Errorf("Audit of %d bytes took %v", len(file), took)
	}
}

// ended is the bytes of a directory, with what stands ahead of it and its end record.
func ended(ahead, directory string, total int) string {
	b, e := record.PutEnd(api.End{Here: total, Total: total, DirSize: len(directory), DirAt: len(ahead)})
	if e != api.OK {
		panic(e)
	}
	return ahead + directory + string(b)
}

// recorded is the bytes of a directory's record.
func recorded(c api.Central) string {
	b, e := record.PutCentral(c)
	if e != api.OK {
		panic(e)
	}
	return string(b)
}

func TestBigMany(t *testing.T) { // P26.1: as many entries as there may be, and all of them with something wrong
	var ahead, directory strings.Builder
	for i := range 65535 {
		x := stored(strconv.Itoa(i), "x")
		x.record.At = ahead.Len()
		ahead.WriteString(x.extent())
		directory.WriteString(recorded(x.record))
	}
	file := ended(ahead.String(), directory.String(), 65535)
	audits(t, file)
	counted(t, strings.ReplaceAll(file, "xPK", "yPK"), map[api.Errno]int{170: 65535})
	counted(t, strings.ReplaceAll(file, "PK\x01\x02\x14\x00\x0a", "PK\x01\x02\x14\x00\x0b"), map[api.Errno]int{133: 65535, 136: 65535})
	mends(t, ahead.String(), most, 65535, file, strokes(ahead.String(), file))
}

func TestBigNested(t *testing.T) { // P0.1: thousands of entries that each claim all that stands behind their local headers
	for _, method := range []int{api.MethodStore, api.MethodDeflate} {
		const n, dir = 60000, 4 << 20
		var ahead, directory strings.Builder
		for i := range n {
			x := stored(strconv.Itoa(i), "")
			c := &x.record
			c.Need, c.Method, c.At = 20, method, ahead.Len()
			c.Packed = most - 22 - dir - ahead.Len() - 30 - len(c.Name)
			c.Size = c.Packed
			x.local = c.Local
			ahead.WriteString(x.extent())
			directory.WriteString(recorded(*c))
		}
		ahead.WriteString(zeros(most - 22 - dir - ahead.Len()))
		counted(t, ended(ahead.String(), directory.String(), n), map[api.Errno]int{137: n - 1, 170: n})
	}
}

func TestBigChained(t *testing.T) { // P0.1, P26.1, 7: thousands of small entries, and then thousands that lie over all that stand behind their first bytes
	const n, dir = 60000, 6 << 20
	var ahead, small, great strings.Builder
	for i := range n {
		y := stored("y"+strconv.Itoa(i), "")
		y.record.At = ahead.Len() + 30 + len(y.record.Name)
		y.record.Packed = most - 22 - dir - y.record.At - 30 - len(y.record.Name)
		y.record.Size = y.record.Packed
		y.local = y.record.Local
		x := stored("x"+strconv.Itoa(i), y.extent())
		x.record.At = ahead.Len()
		ahead.WriteString(x.extent())
		small.WriteString(recorded(x.record))
		great.WriteString(recorded(y.record))
	}
	ahead.WriteString(zeros(most - 22 - dir - ahead.Len()))
	counted(t, ended(ahead.String(), small.String()+great.String(), 2*n%65536), map[api.Errno]int{132: 1, 137: n, 170: n})
}

func TestBigShared(t *testing.T) { // P0.1: thousands of records that lead to one local header, with the longest texts there may be
	x := stored("a", "")
	x.local.Extra = zeros(65532) // as many fields as there may be
	one := x.extent()
	n := (1 << 21) / 47
	counted(t, ended(one, strings.Repeat(recorded(x.record), n), n), map[api.Errno]int{135: n - 1})
	x.local.Name = strings.Repeat("a", 65535)
	counted(t, ended(x.extent(), strings.Repeat(recorded(x.record), n), n), map[api.Errno]int{135: n - 1, 136: n})
}

func TestBigUncounted(t *testing.T) { // P26.1, 5: more records stand there than an end record can tell
	one := stored("a", "").extent()
	n := (most - 22 - len(one)) / 47
	counted(t, ended(one, strings.Repeat(recorded(stored("a", "").record), n), 65535), map[api.Errno]int{132: 1, 135: n - 1})
	counted(t, ended("", strings.Repeat("PK\x01\x02"+zeros(42), most/46-1), 1), map[api.Errno]int{132: 1, 133: most/46 - 1, 134: most/46 - 1, 135: most/46 - 2, 136: most/46 - 1})
}

func TestBigTexts(t *testing.T) { // P26.1, 6: the longest plain text
	x := packed("a", zeros(most))
	audits(t, laid(x))
	audits(t, laid(altered(x, func(c *api.Central) { c.Sum++ })), at(170, 0, "a"))
	audits(t, laid(altered(x, func(c *api.Central) { c.Size-- })), at(170, 0, "a"))
	audits(t, laid(altered(x, func(c *api.Central) { c.Size++ })), at(170, 0, "a"))
	y := stored("a", strings.Repeat("x", most-31-47-22))
	file := laid(y)
	audits(t, file)
	audits(t, with(file, most-100, 'y'), at(170, 0, "a"))
}
