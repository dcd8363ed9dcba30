package valise_test

import (
	"fmt"
	"math/rand"
	"slices"
	"strings"
	"testing"

	"valise/api"
)

func TestBigTexts(t *testing.T) { // P17.9: about as long as a disk
	d := holds(t, "", most)
	v := limited(t, d, api.Options{MaxData: api.MaxField})
	long := make([]byte, most+1)
	still(t, d, func() {
		for _, how := range []api.How{stored, packed} {
			fails(t, v.Add("a", long, how), "add", "a", api.ErrBig) // whatever the options allow
			fails(t, v.Batch(api.Step{Name: "a", Data: long, How: how}), "batch", "a", api.ErrBig)
		}
		fails(t, v.Add("a", long[:most], stored), "add", "a", api.ErrFull)
		level0 := packed
		level0.Level = 0
		for _, n := range []int{most, most - 5*256 + 1} { // packed it has more bytes than a disk
			fails(t, v.Add("a", long[:n], level0), "add", "a", api.ErrArg)
		}
		fails(t, v.Batch(put("b", ""), api.Step{Name: "a", Data: long[:most], How: level0}), "batch", "a", api.ErrArg)
		fails(t, v.Add("a", long[:most-5*256], level0), "add", "a", api.ErrFull)
		fails(t, v.Add("/", long, stored), "add", "/", api.ErrName)
	})
	goes(t, v.Add("a", long[:most], packed)) // zeros, which are packed well
	b, err := v.Read("a")
	if err != nil || len(b) != most || slices.Max(b) != 0 {
		t.Errorf("Read = %d bytes, %v", len(b), err)
	}
	if damaged, err := v.Verify(); len(damaged) != 0 || err != nil {
		t.Errorf("Verify = %q, %v", damaged, err)
	}
	goes(t, v.Rename("a", "b"))
	has(t, d, v, "b", string(long[:most]))
}

func TestBigFull(t *testing.T) { // P0.11: a third of the greatest disk
	n := (most-4096)/3 - 1000
	data := make([]byte, n)
	rand.New(rand.NewSource(1)).Read(data)
	d, v := over(t, "", most)
	goes(t, v.Add("a", data, stored))
	goes(t, v.Rename("a", "b"))
	goes(t, v.Delete("b"))
	goes(t, v.Compact())
	sized(t, v, 22)
	has(t, d, v)
}

// manyItems are entries with the names 00000, 00001 and so on.
func manyItems(n int) []api.Item {
	var items []api.Item
	for i := range n {
		items = append(items, item(fmt.Sprintf("%05d", i), ""))
	}
	return items
}

func TestMany(t *testing.T) { // P17.9: as many entries as the format allows
	items := manyItems(65535)
	items[777].Sum = 1
	slices.Reverse(items)
	d, v := over(t, laid(t, items...), most)
	still(t, d, func() {
		fails(t, v.Add("new", make([]byte, most+1), stored), "add", "new", api.ErrMany)
		fails(t, v.Batch(gone("00000"), put("a", ""), put("b", "")), "batch", "b", api.ErrMany)
		if damaged, err := v.Verify(); !slices.Equal(damaged, []string{"00777"}) || err != nil {
			t.Errorf("Verify = %q, %v", damaged, err)
		}
		all := names(v)
		if len(all) != 65535 || !slices.IsSorted(all) || all[65534] != "65534" {
			t.Errorf("%d names", len(all))
		}
	})
	puts(t, v, "00777", "mended")
	goes(t, v.Rename("00001", "a"))
	goes(t, v.Delete("00002"))
	puts(t, v, "new", "x")
	fails(t, v.Add("newer", nil, stored), "add", "newer", api.ErrMany)
	if damaged, err := v.Verify(); len(damaged) != 0 || err != nil {
		t.Errorf("Verify = %q, %v", damaged, err)
	}
	if list, err := v.List(); len(list) != 65535 || list[65534].Name != "new" || err != nil {
		t.Errorf("List has %d, %v", len(list), err)
	}
}

func TestLongNames(t *testing.T) { // P17.6: names of the greatest length, that differ in their last byte alone
	d, v := over(t, "", 1<<20)
	name := strings.Repeat("n", 65534)
	puts(t, v, name+"b", "2", name+"a", "1")
	has(t, d, v, name+"a", "1", name+"b", "2")
	fails(t, v.Add(name+"ab", nil, stored), "add", name+"ab", api.ErrName)
}

func TestBombs(t *testing.T) { // P17.8: short packed texts that say long plain ones, many of them
	text := zeros(1 << 20)
	bytes := deflated(t, text, 6)
	var items []api.Item
	var want []string
	for i := range 100 {
		x := packedItem(fmt.Sprintf("%03d", i), bytes, len(text), item("", text).Sum)
		if i%3 == 0 {
			x.Size--
			want = append(want, x.Name)
		}
		items = append(items, x)
	}
	_, v := over(t, laid(t, items...), 1<<20)
	if got, err := v.Verify(); !slices.Equal(got, want) || err != nil {
		t.Errorf("Verify = %q, %v, want %q", got, err, want)
	}
}
