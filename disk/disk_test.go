package disk_test

import (
	"bytes"
	"math"
	"slices"
	"strings"
	"testing"

	"valise/api"
	"valise/disk"
)

// made is New where it must go well.
func made(t *testing.T, image string, capacity int) *disk.Disk {
	t.Helper()
	d, e := disk.New([]byte(image), capacity)
	if e != api.OK || d == nil {
		t.Fatalf("New(%.20q, %d): %d", image, capacity, e)
	}
	return d
}

// answers checks an error number.
func answers(t *testing.T, call string, got, want api.Errno) {
	t.Helper()
	if got != want {
		t.Errorf("%s: error %d, want %d", call, got, want)
	}
}

// tells checks all that a disk tells.
func tells(t *testing.T, d *disk.Disk, image string, capacity, calls int, alive bool) {
	t.Helper()
	if got := string(d.Image()); got != image || d.Size() != len(image) {
		t.Errorf("Image %.60q (%d bytes), Size %d, want %.60q (%d bytes)", got, len(got), d.Size(), image, len(image))
	}
	if d.Capacity() != capacity || d.Calls() != calls || d.Alive() != alive {
		t.Errorf("Capacity %d, Calls %d, Alive %v, want %d, %d, %v", d.Capacity(), d.Calls(), d.Alive(), capacity, calls, alive)
	}
}

// leaves crashes d and checks the outcome; it tells the new disk.
func leaves(t *testing.T, d *disk.Disk, c api.Choice, want string) *disk.Disk {
	t.Helper()
	x, e := d.Crash(c)
	if e != api.OK || x == nil {
		t.Fatalf("Crash(%v): %d", c, e)
	}
	if d.Alive() {
		t.Errorf("Crash(%v): the old disk is live", c)
	}
	tells(t, x, want, d.Capacity(), 0, true)
	return x
}

func zeros(n int) string { return strings.Repeat("\x00", n) }

func TestNew(t *testing.T) { // P1.1, P0.4, P0.5
	for _, c := range []struct {
		image    string
		capacity int
		e        api.Errno
	}{
		{"", 0, api.OK},
		{"", 7, api.OK},
		{"ab", 2, api.OK},
		{"ab", api.MaxCapacity, api.OK},
		{"", -1, api.ErrArg},
		{"", math.MinInt, api.ErrArg},
		{"abc", -1, api.ErrArg},
		{"", api.MaxCapacity + 1, api.ErrArg},
		{"", math.MaxInt, api.ErrArg},
		{"a", 0, api.ErrDiskFull},
		{"abc", 2, api.ErrDiskFull},
	} {
		d, e := disk.New([]byte(c.image), c.capacity)
		answers(t, "New", e, c.e)
		if (d == nil) != (c.e != api.OK) {
			t.Errorf("New(%q, %d): a disk %v beside error %d", c.image, c.capacity, d != nil, e)
		}
		if d != nil {
			tells(t, d, c.image, c.capacity, 0, true)
			leaves(t, d, api.Choice{Size: 9, Rest: 9}, c.image)
		}
	}
}

func TestNewWhole(t *testing.T) { // P1.1: the greatest disk, and one byte too many
	image := bytes.Repeat([]byte("0123456789abcdef"), api.MaxCapacity/16)
	d, e := disk.New(image, api.MaxCapacity)
	answers(t, "New", e, api.OK)
	tells(t, d, string(image), api.MaxCapacity, 0, true)
	answers(t, "WriteAt", d.WriteAt(api.MaxCapacity-1, []byte("x")), api.OK)
	answers(t, "WriteAt", d.WriteAt(api.MaxCapacity, []byte("x")), api.ErrDiskFull)
	answers(t, "Truncate", d.Truncate(api.MaxCapacity+1), api.ErrDiskFull)
	_, e = disk.New(append(image, 'x'), api.MaxCapacity)
	answers(t, "New", e, api.ErrDiskFull)
	_, e = disk.New(append(image, 'x'), api.MaxCapacity+1)
	answers(t, "New", e, api.ErrArg)
}

func TestReadAt(t *testing.T) { // P1.3, P1.2
	d := made(t, "abcdef", 10)
	for _, c := range []struct {
		off, n int
		want   string
		e      api.Errno
	}{
		{0, 6, "abcdef", api.OK},
		{0, 0, "", api.OK},
		{2, 3, "cde", api.OK},
		{5, 1, "f", api.OK},
		{6, 0, "", api.OK},
		{7, 0, "", api.ErrDiskRange},
		{6, 1, "", api.ErrDiskRange},
		{0, 7, "", api.ErrDiskRange},
		{-1, 0, "", api.ErrArg},
		{0, -1, "", api.ErrArg},
		{-1, 99, "", api.ErrArg},
		{99, -1, "", api.ErrArg},
		{math.MinInt, math.MinInt, "", api.ErrArg},
		{math.MaxInt, 0, "", api.ErrDiskRange},
		{1, math.MaxInt, "", api.ErrDiskRange},
		{math.MaxInt, math.MaxInt, "", api.ErrDiskRange},
	} {
		got, e := d.ReadAt(c.off, c.n)
		if string(got) != c.want || e != c.e {
			t.Errorf("ReadAt(%d, %d): %q, %d, want %q, %d", c.off, c.n, got, e, c.want, c.e)
		}
	}
	tells(t, d, "abcdef", 10, 0, true)
}

func TestWriteAt(t *testing.T) { // P1.4
	for _, c := range []struct {
		off        int
		data, want string
	}{
		{0, "", "abcd"},
		{2, "", "abcd"},
		{4, "", "abcd"},
		{7, "", "abcd"},
		{10, "", "abcd"},
		{0, "x", "xbcd"},
		{1, "xy", "axyd"},
		{0, "wxyz", "wxyz"},
		{3, "xy", "abcxy"},
		{4, "x", "abcdx"},
		{6, "x", "abcd\x00\x00x"},
		{9, "x", "abcd\x00\x00\x00\x00\x00x"},
		{0, "0123456789", "0123456789"},
	} {
		d := made(t, "abcd", 10)
		answers(t, "WriteAt", d.WriteAt(c.off, []byte(c.data)), api.OK)
		tells(t, d, c.want, 10, 1, true)
		if got, e := d.ReadAt(0, len(c.want)); string(got) != c.want || e != api.OK {
			t.Errorf("ReadAt behind WriteAt(%d, %q): %q, %d, want %q", c.off, c.data, got, e, c.want)
		}
	}
}

func TestWriteAtRefused(t *testing.T) { // P1.4, P1.2
	d := made(t, "abcd", 10)
	for _, c := range []struct {
		off  int
		data string
		e    api.Errno
	}{
		{-1, "", api.ErrArg},
		{-1, "x", api.ErrArg},
		{-1, "0123456789abcdef", api.ErrArg},
		{math.MinInt, "x", api.ErrArg},
		{10, "x", api.ErrDiskFull},
		{11, "", api.ErrDiskFull},
		{0, "0123456789a", api.ErrDiskFull},
		{8, "xyz", api.ErrDiskFull},
		{math.MaxInt, "", api.ErrDiskFull},
		{math.MaxInt, "x", api.ErrDiskFull},
	} {
		answers(t, "WriteAt", d.WriteAt(c.off, []byte(c.data)), c.e)
		tells(t, d, "abcd", 10, 0, true)
	}
	leaves(t, d, api.Choice{Size: 99, Rest: 99}, "abcd")
}

func TestTruncate(t *testing.T) { // P1.5
	d := made(t, "abcd", 10)
	for i, c := range []struct {
		size int
		want string
	}{
		{4, "abcd"},
		{2, "ab"},
		{5, "ab\x00\x00\x00"},
		{0, ""},
		{0, ""},
		{10, zeros(10)},
		{10, zeros(10)},
	} {
		answers(t, "Truncate", d.Truncate(c.size), api.OK)
		tells(t, d, c.want, 10, i+1, true)
	}
	for _, c := range []struct {
		size int
		e    api.Errno
	}{{-1, api.ErrArg}, {math.MinInt, api.ErrArg}, {11, api.ErrDiskFull}, {math.MaxInt, api.ErrDiskFull}} {
		answers(t, "Truncate", d.Truncate(c.size), c.e)
		tells(t, d, zeros(10), 10, 7, true)
	}
}

func TestSync(t *testing.T) { // P1.6
	d := made(t, "abcd", 2000)
	answers(t, "WriteAt", d.WriteAt(1500, []byte("xyz")), api.OK)
	answers(t, "Truncate", d.Truncate(2), api.OK)
	answers(t, "WriteAt", d.WriteAt(600, []byte("q")), api.OK)
	answers(t, "Sync", d.Sync(), api.OK)
	want := "ab" + zeros(598) + "q"
	tells(t, d, want, 2000, 4, true)
	answers(t, "Sync", d.Sync(), api.OK)
	tells(t, d, want, 2000, 5, true)
	answers(t, "WriteAt", d.WriteAt(0, []byte("1")), api.OK)
	answers(t, "WriteAt", d.WriteAt(601, []byte("2")), api.OK)
	// Of the calls ahead of the Sync there are no pieces and no size changes any more: the first ones are those behind it.
	leaves(t, d, api.Choice{}, want)
	leaves(t, d, api.Choice{Sectors: []int{1}}, "1"+want[1:])
	leaves(t, d, api.Choice{Size: 1, Rest: 1}, "1"+want[1:]+"2")
	leaves(t, d, api.Choice{Size: 9, Sectors: []int{0}, Rest: 9}, want+"2")
}

func TestSyncThenAnyCrash(t *testing.T) { // what follows from P1.6 and P1.9
	for _, c := range []api.Choice{{}, {Size: 5, Rest: 5}, {Size: -1, Rest: -1}, {Sectors: []int{1, 0, 3}, Rest: 1}} {
		d := made(t, "abcd", 2000)
		answers(t, "WriteAt", d.WriteAt(1000, []byte("xyz")), api.OK)
		answers(t, "Truncate", d.Truncate(3), api.OK)
		answers(t, "Truncate", d.Truncate(700), api.OK)
		answers(t, "Sync", d.Sync(), api.OK)
		leaves(t, d, c, "abc"+zeros(697))
	}
}

func TestShrinkIsWholeOrNot(t *testing.T) { // what follows from P1.5 and P1.9
	image := strings.Repeat("0123456789", 150)
	d := made(t, image, 2000)
	answers(t, "Truncate", d.Truncate(700), api.OK)
	leaves(t, d, api.Choice{Rest: 9}, image)
	leaves(t, d, api.Choice{Size: 1, Rest: 9}, image[:700])
	leaves(t, d, api.Choice{Size: 9, Sectors: []int{0, 9}}, image[:700])
}

func TestOldBytesShowAgain(t *testing.T) { // what follows from P1.5 and P1.9
	d := made(t, "abcdef", 6)
	answers(t, "Truncate", d.Truncate(2), api.OK)
	answers(t, "Truncate", d.Truncate(6), api.OK)
	tells(t, d, "ab\x00\x00\x00\x00", 6, 2, true)
	leaves(t, d, api.Choice{Size: 2}, "abcdef")
	leaves(t, d, api.Choice{Size: 2, Rest: 1}, "ab\x00\x00\x00\x00")
}

func TestOnePieceACall(t *testing.T) { // P1.4, P1.5: how many pieces and size changes a call adds
	d := made(t, "ab", 2000)
	answers(t, "WriteAt", d.WriteAt(0, nil), api.OK)               // none
	answers(t, "Truncate", d.Truncate(2), api.OK)                  // none
	answers(t, "WriteAt", d.WriteAt(4, []byte("c")), api.OK)       // the zeros and c are one piece
	answers(t, "Truncate", d.Truncate(1), api.OK)                  // a size change, no piece
	answers(t, "WriteAt", d.WriteAt(0, []byte("d")), api.OK)       // a piece, no size change
	answers(t, "Truncate", d.Truncate(1025), api.OK)               // a piece in each of three sectors
	answers(t, "WriteAt", d.WriteAt(511, []byte("ef")), api.OK)    // a piece in each of two sectors
	answers(t, "WriteAt", d.WriteAt(1030, []byte("g")), api.OK)    // the third sector's second piece
	answers(t, "WriteAt", d.WriteAt(1023, []byte("hijk")), api.OK) // over the border of the second and the third
	leaves(t, d, api.Choice{Size: 1, Rest: 1}, "ab\x00\x00c")      // P1.4
	leaves(t, d, api.Choice{Size: 1, Rest: 2}, "db\x00\x00c")      // P1.4
	leaves(t, d, api.Choice{Size: 2, Rest: 9}, "d")                // P1.5
	leaves(t, d, api.Choice{Size: 0, Rest: 2}, "db")               // P1.9
	leaves(t, d, api.Choice{Size: 3, Rest: 0}, "ab"+zeros(1023))   // P1.9: no piece has a byte there
	leaves(t, d, api.Choice{Size: 3, Sectors: []int{3, 2, 1}}, "d"+zeros(511)+"f"+zeros(512))
	leaves(t, d, api.Choice{Size: 4, Sectors: []int{4, 1, 2}}, "d"+zeros(510)+"e"+zeros(512)+zeros(6)+"g")
	leaves(t, d, api.Choice{Size: 4, Sectors: []int{4}, Rest: 3}, "d"+zeros(510)+"ef"+zeros(510)+"hijk"+zeros(3)+"g")
}

func TestZerosOverBorders(t *testing.T) { // P1.4: zeros and data are cut at each border
	d := made(t, "a", 4000)
	answers(t, "WriteAt", d.WriteAt(1023, []byte("xyz")), api.OK)
	whole := "a" + zeros(1022) + "xyz"
	tells(t, d, whole, 4000, 1, true)
	leaves(t, d, api.Choice{Size: 1, Rest: 1}, whole)
	leaves(t, d, api.Choice{Size: 1, Sectors: []int{1, 0, 1}}, "a"+zeros(1023)+"yz")
	leaves(t, d, api.Choice{Size: 1, Sectors: []int{1, 1, 0}}, "a"+zeros(1022)+"x"+zeros(2))
	leaves(t, d, api.Choice{Size: 0, Rest: 1}, "a")
}

func TestCrashKeepsTheOldDisk(t *testing.T) { // P1.9, P1.7
	d := made(t, "abcd", 10)
	answers(t, "WriteAt", d.WriteAt(3, []byte("xyz")), api.OK)
	d.Fuse(0)
	x := leaves(t, d, api.Choice{Size: 1, Rest: 1}, "abcxyz")
	tells(t, d, "abcxyz", 10, 1, false)
	answers(t, "Sync of the new disk: it has no fuse", x.Sync(), api.OK)
	answers(t, "WriteAt", x.WriteAt(0, []byte("------")), api.OK)
	answers(t, "Sync", x.Sync(), api.OK)
	tells(t, d, "abcxyz", 10, 1, false)
	leaves(t, d, api.Choice{Size: 1, Rest: 1}, "abcxyz")
	y := leaves(t, d, api.Choice{Size: 1}, "abcd\x00\x00")
	leaves(t, d, api.Choice{Rest: 1}, "abcx")
	leaves(t, d, api.Choice{}, "abcd")
	tells(t, y, "abcd\x00\x00", 10, 0, true)
	leaves(t, x, api.Choice{}, "------")
}

func TestChoiceCounts(t *testing.T) { // P1.9: every number of a Choice may be any int
	d := made(t, "abcd", 10)
	answers(t, "WriteAt", d.WriteAt(0, []byte("x")), api.OK)
	answers(t, "WriteAt", d.WriteAt(0, []byte("yz")), api.OK)
	answers(t, "Truncate", d.Truncate(5), api.OK)
	answers(t, "Truncate", d.Truncate(3), api.OK)
	for _, c := range []struct {
		choice api.Choice
		want   string
	}{
		{api.Choice{Size: math.MinInt, Rest: math.MinInt}, "abcd"},
		{api.Choice{Size: -1, Rest: 1}, "xbcd"},
		{api.Choice{Size: 1, Rest: 2}, "yzcd\x00"},
		{api.Choice{Size: 2, Rest: 3}, "yzc"},
		{api.Choice{Size: 3, Rest: math.MaxInt}, "yzc"},
		{api.Choice{Size: math.MaxInt, Sectors: []int{math.MaxInt}}, "yzc"},
		{api.Choice{Size: math.MaxInt, Sectors: []int{math.MinInt}, Rest: 9}, "abc"},
		{api.Choice{Sectors: []int{1, 9, 9, 9, 9, 9}, Rest: 9}, "xbcd"},
		{api.Choice{Sectors: []int{}, Rest: 1}, "xbcd"},
		{api.Choice{Sectors: nil, Rest: 1}, "xbcd"},
	} {
		leaves(t, d, c.choice, c.want)
	}
}

func TestFuse(t *testing.T) { // P1.8
	for n := range 5 {
		d := made(t, "abcd", 10)
		d.Fuse(n)
		changes := []func() api.Errno{
			func() api.Errno { return d.WriteAt(1, []byte("x")) },
			func() api.Errno { return d.Truncate(4) },
			d.Sync,
			func() api.Errno { return d.WriteAt(9, nil) },
			func() api.Errno { return d.Truncate(6) },
			d.Sync,
		}
		for i, change := range changes {
			answers(t, "WriteAt(-1)", d.WriteAt(-1, nil), refusal(i, n, api.ErrArg))
			answers(t, "WriteAt(11)", d.WriteAt(11, nil), refusal(i, n, api.ErrDiskFull))
			answers(t, "Truncate(-1)", d.Truncate(-1), refusal(i, n, api.ErrArg))
			answers(t, "Truncate(11)", d.Truncate(11), refusal(i, n, api.ErrDiskFull))
			_, e := d.ReadAt(0, 4)
			answers(t, "ReadAt", e, refusal(i, n, api.OK))
			answers(t, "a changing call", change(), refusal(i, n-1, api.OK))
			if d.Calls() != min(i+1, n) || d.Alive() != (i < n) {
				t.Errorf("Fuse(%d), change %d: Calls %d, Alive %v", n, i, d.Calls(), d.Alive())
			}
		}
	}
}

// refusal tells what a call answers that would answer e, ahead of the change i of a disk that dies at the change n.
func refusal(i, n int, e api.Errno) api.Errno {
	if i > n {
		return api.ErrDiskPower
	}
	return e
}

func TestFuseTakesThePlace(t *testing.T) { // P1.8
	d := made(t, "abcd", 10)
	d.Fuse(0)
	d.Fuse(1)
	answers(t, "Sync", d.Sync(), api.OK)
	d.Fuse(-1)
	for range 9 {
		answers(t, "Sync", d.Sync(), api.OK)
	}
	d.Fuse(math.MaxInt)
	answers(t, "Sync", d.Sync(), api.OK)
	d.Fuse(0)
	d.Fuse(math.MinInt)
	answers(t, "Sync", d.Sync(), api.OK)
	d.Fuse(1)
	answers(t, "WriteAt", d.WriteAt(0, []byte("x")), api.OK)
	answers(t, "WriteAt", d.WriteAt(0, []byte("y")), api.ErrDiskPower)
	tells(t, d, "xbcd", 10, 13, false)
}

func TestDead(t *testing.T) { // P1.2, P1.7, P1.8: by the fuse, and by a crash
	fused, crashed := made(t, "abcd", 10), made(t, "abcd", 10)
	fused.Fuse(0)
	answers(t, "Truncate", fused.Truncate(2), api.ErrDiskPower)
	leaves(t, crashed, api.Choice{}, "abcd")
	for _, d := range []*disk.Disk{fused, crashed} {
		d.Fuse(-1)
		d.Fuse(9)
		for _, off := range []int{-1, 0, 4, 11, math.MaxInt, math.MinInt} {
			got, e := d.ReadAt(off, off)
			answers(t, "ReadAt", e, api.ErrDiskPower)
			if len(got) != 0 {
				t.Errorf("ReadAt beside an error: %q", got)
			}
			answers(t, "WriteAt", d.WriteAt(off, []byte("x")), api.ErrDiskPower)
			answers(t, "Truncate", d.Truncate(off), api.ErrDiskPower)
		}
		answers(t, "Sync", d.Sync(), api.ErrDiskPower)
		tells(t, d, "abcd", 10, 0, false)
		leaves(t, d, api.Choice{Size: 1, Rest: 1}, "abcd")
	}
}

func TestNil(t *testing.T) { // P1.10, P0.6
	var d *disk.Disk
	got, e := d.ReadAt(0, 0)
	answers(t, "ReadAt", e, api.ErrArg)
	answers(t, "WriteAt", d.WriteAt(0, []byte("x")), api.ErrArg)
	answers(t, "Truncate", d.Truncate(0), api.ErrArg)
	answers(t, "Sync", d.Sync(), api.ErrArg)
	x, e := d.Crash(api.Choice{Size: 1, Sectors: []int{1}, Rest: 1})
	answers(t, "Crash", e, api.ErrArg)
	if x != nil || len(got) != 0 {
		t.Errorf("beside an error: %q, a disk %v", got, x != nil)
	}
	d.Fuse(0)
	tells(t, d, "", 0, 0, false)
}

func TestNotMade(t *testing.T) { // P0.1: a disk that New has not made
	var d disk.Disk
	_, e := d.ReadAt(0, 0)
	answers(t, "ReadAt", e, api.OK)
	answers(t, "WriteAt", d.WriteAt(0, []byte("x")), api.ErrDiskFull)
	answers(t, "WriteAt", d.WriteAt(0, nil), api.OK)
	answers(t, "Truncate", d.Truncate(1), api.ErrDiskFull)
	answers(t, "Sync", d.Sync(), api.OK)
	leaves(t, &d, api.Choice{Size: 1, Sectors: []int{1}, Rest: 1}, "")
}

func TestNilAndEmptyAreOne(t *testing.T) { // P0.2
	for _, none := range [][]byte{nil, {}} {
		d, e := disk.New(none, 3)
		answers(t, "New", e, api.OK)
		answers(t, "WriteAt", d.WriteAt(3, none), api.OK)
		answers(t, "WriteAt", d.WriteAt(4, none), api.ErrDiskFull)
		tells(t, d, "", 3, 1, true)
		leaves(t, d, api.Choice{Rest: 1}, "")
	}
}

// scribble writes over a list, and over the room behind it.
func scribble(list []byte) {
	list = list[:cap(list)]
	for i := range list {
		list[i] = '-'
	}
}

func TestMemory(t *testing.T) { // P0.3
	image, data := []byte("abcdef....")[:6], []byte("xyz....")[:3]
	d, e := disk.New(image, 12)
	answers(t, "New", e, api.OK)
	answers(t, "WriteAt", d.WriteAt(5, data), api.OK)
	answers(t, "Truncate", d.Truncate(9), api.OK)
	if string(image[:10]) != "abcdef...." || string(data[:7]) != "xyz...." {
		t.Errorf("what was handed in is changed: %q, %q", image[:10], data[:7])
	}
	scribble(image)
	scribble(data)
	now := "abcdexyz\x00"
	one, two := d.Image(), d.Image()
	three, e := d.ReadAt(0, 9)
	answers(t, "ReadAt", e, api.OK)
	four, e := d.ReadAt(2, 4)
	answers(t, "ReadAt", e, api.OK)
	scribble(one)
	scribble(three)
	if string(two) != now || string(four) != "cdex" {
		t.Errorf("two answers share memory: %q, %q", two, four)
	}
	scribble(two)
	scribble(four)
	tells(t, d, now, 12, 2, true)
	sectors := []int{1, 5, 7, 7}
	x := leaves(t, d, api.Choice{Size: 2, Sectors: sectors[:2], Rest: 2}, now[:8]+"\x00")
	if !slices.Equal(sectors, []int{1, 5, 7, 7}) {
		t.Errorf("the choice is changed: %v", sectors)
	}
	scribble(x.Image())
	leaves(t, d, api.Choice{}, "abcdef")
	leaves(t, x, api.Choice{}, now)
}

func TestOthersChangeNothing(t *testing.T) { // P0.7
	alone, beside := made(t, "abcd", 2000), made(t, "abcd", 2000)
	other := made(t, "abcd", 2000)
	for i, d := range []*disk.Disk{alone, beside} {
		answers(t, "WriteAt", d.WriteAt(600, []byte("x")), api.OK)
		if i == 1 {
			other.Fuse(3)
			answers(t, "WriteAt", other.WriteAt(2, []byte("q")), api.OK)
			answers(t, "Truncate", other.Truncate(3), api.OK)
			answers(t, "Sync", other.Sync(), api.OK)
			answers(t, "Sync", other.Sync(), api.ErrDiskPower)
		}
		answers(t, "WriteAt", d.WriteAt(0, []byte("y")), api.OK)
	}
	want := "ybcd" + zeros(596) + "x"
	for _, d := range []*disk.Disk{alone, beside} {
		tells(t, d, want, 2000, 2, true)
		leaves(t, d, api.Choice{Size: 1, Sectors: []int{1}, Rest: 1}, "abcd"+want[4:])
		leaves(t, d, api.Choice{Size: 1, Rest: 2}, want)
	}
}
