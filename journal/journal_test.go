package journal_test

import (
	"math"
	"strconv"
	"strings"
	"testing"

	"valise/api"
	"valise/disk"
	"valise/journal"
)

const hello = "hello, world"

// short tells a text for a message.
func short(s string) string {
	if len(s) <= 64 {
		return strconv.Quote(s)
	}
	return strconv.Quote(s[:64]) + ".. (" + strconv.Itoa(len(s)) + " bytes)"
}

// holds makes a disk that holds a text.
func holds(t *testing.T, s string, capacity int) *disk.Disk {
	t.Helper()
	d, e := disk.New([]byte(s), capacity)
	if e != api.OK {
		t.Fatalf("New of %d bytes, capacity %d: %d", len(s), capacity, e)
	}
	return d
}

// looks holds Look and Quiet of an image against what is wanted.
func looks(t *testing.T, image string, want api.Verdict, content string) {
	t.Helper()
	v, l := journal.Look([]byte(image))
	if v != want || string(l) != content {
		t.Errorf("Look(%s) = %v, %s, want %v, %s", short(image), v, short(string(l)), want, short(content))
	}
	if journal.Quiet([]byte(image)) != (want.State == api.StateNone) {
		t.Errorf("Quiet(%s) isn't what Look says", short(image))
	}
}

// silent holds that an image says nothing.
func silent(t *testing.T, image string) {
	t.Helper()
	looks(t, image, api.Verdict{Size: len(image)}, image)
}

// needs holds Need against what is wanted.
func needs(t *testing.T, old, size int, writes []api.Write, want int, err api.Errno) {
	t.Helper()
	if n, e := journal.Need(old, size, writes); n != want || e != err {
		t.Errorf("Need(%d, %d, %d writes) = %d, %d, want %d, %d", old, size, len(writes), n, e, want, err)
	}
}

// applies holds Apply against what is wanted.
func applies(t *testing.T, content string, size int, writes []api.Write, want string, err api.Errno) {
	t.Helper()
	if l, e := journal.Apply([]byte(content), size, writes); string(l) != want || e != err {
		t.Errorf("Apply(%s, %d, %d writes) = %s, %d, want %s, %d", short(content), size, len(writes), short(string(l)), e, short(want), err)
	}
}

// wrongWrites are lists of writes that are not right for 12 bytes.
func wrongWrites() map[string][]api.Write {
	return map[string][]api.Write{
		"no byte":              {write(3, "")},
		"no byte, nil":         {{At: 3}},
		"no byte at the end":   {write(12, "")},
		"ahead of 0":           {write(-1, "ab")},
		"far ahead of 0":       {write(math.MinInt, "ab")},
		"behind the size":      {write(12, "a")},
		"beyond the size":      {write(11, "ab")},
		"longer than the size": {write(0, strings.Repeat("a", 13))},
		"far beyond":           {write(math.MaxInt, "ab")},
		"as far as can be":     {write(math.MaxInt-1, "ab")},
		"twice":                {write(3, "a"), write(3, "a")},
		"one byte in common":   {write(3, "ab"), write(4, "a")},
		"not in order":         {write(5, "a"), write(3, "a")},
		"the first is empty":   {write(0, ""), write(3, "a")},
		"the last is empty":    {write(0, "a"), write(3, "")},
		"the last is wrong":    {write(0, "a"), write(1, "b"), write(12, "c")},
	}
}

func TestApply(t *testing.T) { // P14.2
	applies(t, hello, 12, nil, hello, api.OK)
	applies(t, hello, 5, nil, "hello", api.OK)
	applies(t, hello, 0, nil, "", api.OK)
	applies(t, hello, 14, nil, hello+"\x00\x00", api.OK)
	applies(t, "", 3, nil, zeros(3), api.OK)
	applies(t, "", 0, nil, "", api.OK)
	applies(t, hello, 12, []api.Write{write(0, "j"), write(1, "a"), write(11, "D")}, "jallo, worlD", api.OK)
	applies(t, hello, 12, []api.Write{write(0, "HELLO, WORLD")}, "HELLO, WORLD", api.OK)
	applies(t, hello, 15, []api.Write{write(10, "nk"), write(14, "!")}, "hello, wornk\x00\x00!", api.OK)
	applies(t, hello, 5, []api.Write{write(4, "!")}, "hell!", api.OK)
	applies(t, "", 4, []api.Write{write(1, "ab")}, "\x00ab\x00", api.OK)
	for what, writes := range wrongWrites() {
		t.Run(what, func(t *testing.T) { applies(t, hello, 12, writes, "", api.ErrSealWrite) })
	}
	applies(t, hello, 0, []api.Write{write(0, "a")}, "", api.ErrSealWrite)
}

func TestApplyEdges(t *testing.T) { // P14.2: how long a content may be; ErrArg is ahead of ErrSealWrite
	most := zeros(api.MaxCapacity)
	wrong := []api.Write{write(0, "")}
	applies(t, most, api.MaxCapacity, []api.Write{write(api.MaxCapacity-1, "x")}, most[1:]+"x", api.OK)
	applies(t, "a", api.MaxCapacity, nil, "a"+most[1:], api.OK)
	for _, size := range []int{-1, math.MinInt, api.MaxCapacity + 1, math.MaxInt} {
		applies(t, "a", size, nil, "", api.ErrArg)
		applies(t, "a", size, wrong, "", api.ErrArg)
	}
	applies(t, most+"a", 1, nil, "", api.ErrArg)
	applies(t, most+"a", 1, wrong, "", api.ErrArg)
	applies(t, most, 1, wrong, "", api.ErrSealWrite)
}

func TestNeed(t *testing.T) { // P14.3
	bytesAt := func(at, n int) []api.Write { return []api.Write{write(at, zeros(n))} }
	needs(t, 0, 0, nil, 1024, api.OK)
	needs(t, 511, 511, nil, 1535, api.OK)
	needs(t, 511, 511, bytesAt(0, 504), 2559, api.OK) // a body of one sector, filled
	needs(t, 511, 511, bytesAt(0, 505), 2559, api.OK) // and one byte more: the seal's place has room for it
	needs(t, 1023, 1023, bytesAt(0, 1016), 3071, api.OK)
	needs(t, 1023, 1023, bytesAt(0, 1017), 4095, api.OK)
	needs(t, 0, 512, nil, 1024, api.OK) // the seal right behind the content
	needs(t, 0, 513, nil, 2048, api.OK)
	needs(t, 100, 5000, bytesAt(100, 4900), 6244, api.OK) // nothing saved
	needs(t, 100, 5000, bytesAt(99, 4900), 6244, api.OK)  // one byte saved
	needs(t, 5000, 100, nil, 6024, api.OK)
	needs(t, api.MaxCapacity, api.MaxCapacity, nil, api.MaxCapacity+1024, api.OK)
	needs(t, api.MaxCapacity, api.MaxCapacity, bytesAt(0, api.MaxCapacity), 2*api.MaxCapacity+1024, api.OK)
	needs(t, 0, api.MaxCapacity, bytesAt(0, api.MaxCapacity), api.MaxCapacity+1024, api.OK)
	for what, writes := range wrongWrites() {
		t.Run(what, func(t *testing.T) { needs(t, 12, 12, writes, 0, api.ErrSealWrite) })
	}
	for _, n := range []int{-1, math.MinInt, api.MaxCapacity + 1, math.MaxInt} {
		needs(t, n, 1, nil, 0, api.ErrArg)
		needs(t, 1, n, nil, 0, api.ErrArg)
		needs(t, n, 1, []api.Write{write(0, "")}, 0, api.ErrArg)
		needs(t, 1, n, []api.Write{write(0, "")}, 0, api.ErrArg)
	}
}

func TestNeedEverywhere(t *testing.T) { // P14.3: all sizes around some borders of sectors
	near := []int{0, 1, 2, 510, 511, 512, 513, 1023, 1024, 1025, 1535, 1536, 1537, 2047, 2048, 2049}
	for _, old := range near {
		for _, size := range near {
			for _, n := range append(near, 503, 504, 505, 1015, 1016, 1017, 1018) {
				for _, at := range []int{0, 1, size - n} {
					if at < 0 || n < 1 || at+n > size {
						continue
					}
					writes := []api.Write{write(at, zeros(n))}
					_, body := plainBody(zeros(old), writes)
					file, _, _ := plainPlaces(old, size, len(body))
					needs(t, old, size, writes, file, api.OK)
				}
			}
			file, _, _ := plainPlaces(old, size, 0)
			needs(t, old, size, nil, file, api.OK)
		}
	}
}
