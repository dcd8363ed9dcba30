package disk_test

import (
	"testing"

	"valise/api"
	"valise/disk"
)

// The five examples of the document's chapter on the disk.

func TestExample1(t *testing.T) {
	d := made(t, "", 1000)
	answers(t, "WriteAt", d.WriteAt(510, []byte("abcd")), api.OK)
	tells(t, d, zeros(510)+"abcd", 1000, 1, true)
	leaves(t, d, api.Choice{Size: 1, Sectors: []int{0}, Rest: 1}, zeros(512)+"cd")
	leaves(t, d, api.Choice{Size: 0, Rest: 9}, "")
}

func TestExample2(t *testing.T) {
	d := made(t, "", 1000)
	answers(t, "WriteAt", d.WriteAt(510, []byte("abcd")), api.OK)
	answers(t, "Sync", d.Sync(), api.OK)
	answers(t, "WriteAt", d.WriteAt(0, []byte("x")), api.OK)
	answers(t, "WriteAt", d.WriteAt(1, []byte("y")), api.OK)
	answers(t, "WriteAt", d.WriteAt(0, []byte("z")), api.OK)
	tells(t, d, "zy"+zeros(508)+"abcd", 1000, 5, true)
	leaves(t, d, api.Choice{Sectors: []int{2}}, "xy"+zeros(508)+"abcd")
	leaves(t, d, api.Choice{Sectors: []int{3}}, "zy"+zeros(508)+"abcd")
	leaves(t, d, api.Choice{Sectors: []int{0}, Rest: 3}, zeros(510)+"abcd")
	tells(t, d, "zy"+zeros(508)+"abcd", 1000, 5, false)
}

func TestExample3(t *testing.T) {
	d := made(t, "0123456789", 10)
	answers(t, "Truncate", d.Truncate(4), api.OK)
	answers(t, "Truncate", d.Truncate(8), api.OK)
	answers(t, "WriteAt", d.WriteAt(9, []byte("!")), api.OK)
	tells(t, d, "0123"+zeros(5)+"!", 10, 3, true)
	leaves(t, d, api.Choice{Size: 0, Rest: 2}, "0123"+zeros(4)+zeros(1)+"!")
	leaves(t, d, api.Choice{Size: 0, Rest: 1}, "0123"+zeros(4)+"89")
	leaves(t, d, api.Choice{Size: 1, Rest: 2}, "0123")
	leaves(t, d, api.Choice{Size: 2}, "01234567")
	leaves(t, d, api.Choice{Size: 3}, "0123456789")
}

func TestExample4(t *testing.T) {
	d := made(t, "ab", 4)
	d.Fuse(2)
	answers(t, "WriteAt", d.WriteAt(0, nil), api.OK)
	answers(t, "WriteAt", d.WriteAt(3, []byte("xy")), api.ErrDiskFull)
	answers(t, "WriteAt", d.WriteAt(0, []byte("x")), api.OK)
	answers(t, "WriteAt", d.WriteAt(1, []byte("y")), api.ErrDiskPower)
	_, e := d.ReadAt(0, 1)
	answers(t, "ReadAt", e, api.ErrDiskPower)
	_, e = d.ReadAt(-1, 0)
	answers(t, "ReadAt", e, api.ErrDiskPower)
	tells(t, d, "xb", 4, 2, false)
	leaves(t, d, api.Choice{Rest: 2}, "xb")
	leaves(t, d, api.Choice{Rest: 0}, "ab")
}

func TestExample5(t *testing.T) {
	for _, c := range []struct {
		image    string
		capacity int
		e        api.Errno
	}{{"", -1, api.ErrArg}, {"abc", 2, api.ErrDiskFull}} {
		d, e := disk.New([]byte(c.image), c.capacity)
		answers(t, "New", e, c.e)
		if d != nil {
			t.Errorf("New(%q, %d): a disk beside an error", c.image, c.capacity)
		}
	}
	d := made(t, "", 2)
	answers(t, "WriteAt", d.WriteAt(2, nil), api.OK)
	answers(t, "WriteAt", d.WriteAt(3, nil), api.ErrDiskFull)
	answers(t, "WriteAt", d.WriteAt(-1, nil), api.ErrArg)
	d.Fuse(0)
	answers(t, "Truncate", d.Truncate(3), api.ErrDiskFull)
	answers(t, "Sync", d.Sync(), api.ErrDiskPower)
	tells(t, d, "", 2, 1, false)
}
