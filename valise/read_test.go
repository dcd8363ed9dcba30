package valise_test

import (
	"fmt"
	"math/rand"
	"slices"
	"strings"
	"testing"

	"valise/api"
	"valise/deflate"
	"valise/field"
)

// packedItem is an entry that another program has packed so, of a plain text of that size and sum.
func packedItem(name, bytes string, size int, sum uint32) api.Item {
	i := item(name, bytes)
	i.Method, i.Need, i.Size, i.Sum = api.MethodDeflate, 20, size, sum
	return i
}

// deflated is a text as Deflate packs it.
func deflated(t *testing.T, text string, level int) string {
	t.Helper()
	b, e := deflate.Deflate([]byte(text), level)
	if e != api.OK {
		t.Fatalf("Deflate: %d", e)
	}
	return string(b)
}

// reads holds what Read answers of an entry, and what Verify says of it.
func reads(t *testing.T, i api.Item, want string, reason api.Errno) {
	t.Helper()
	d, v := over(t, laid(t, item("ahead", "x"), i, item("zz", "")), most)
	still(t, d, func() {
		b, err := v.Read(i.Name)
		damaged, verr := v.Verify()
		goes(t, verr)
		if reason == api.OK {
			goes(t, err)
		} else {
			fails(t, err, "read", i.Name, reason)
		}
		if string(b) != want || reason != api.OK && b != nil {
			t.Errorf("Read = %s, want %s", short(string(b)), short(want))
		}
		if slices.Equal(damaged, []string{i.Name}) != (reason == api.ErrDamaged) || len(damaged) > 1 {
			t.Errorf("Verify = %q, Read %v", damaged, err)
		}
	})
}

func TestRead(t *testing.T) { // P17.7
	for _, text := range []string{"", "a", "hello", zeros(70000), strings.Repeat("some text, ", 900)} {
		sum := field.Sum([]byte(text))
		reads(t, item("n", text), text, api.OK)
		for level := range 10 {
			reads(t, packedItem("n", deflated(t, text, level), len(text), sum), text, api.OK)
		}
	}
	reads(t, packedItem("n", "\x4b\x04\xc2\x00", 4, 0xad98e545), "", api.ErrDamaged) // a broken one: other bits within
	reads(t, packedItem("n", "\x4b\x04\x02\xc0", 4, 0xad98e545), "aaaa", api.OK)     // unused bits are not looked at
}

func TestReadDamaged(t *testing.T) { // P17.7: whatever the reason
	text := "hello"
	sum := field.Sum([]byte(text))
	bytes := deflated(t, text, 6)
	for what, i := range map[string]api.Item{
		"no packed text":       packedItem("n", "\x07", 5, sum),
		"no bytes":             packedItem("n", "", 5, sum),
		"no bytes, size 0":     packedItem("n", "", 0, 0),
		"the last byte gone":   packedItem("n", bytes[:len(bytes)-1], 5, sum),
		"a byte behind":        packedItem("n", bytes+"\x00", 5, sum),
		"a lesser size":        packedItem("n", bytes, 4, sum),
		"a greater size":       packedItem("n", bytes, 6, sum),
		"a size beyond a disk": packedItem("n", bytes, most+1, sum),
		"the greatest size":    packedItem("n", bytes, api.MaxField, sum),
		"another sum":          packedItem("n", bytes, 5, sum+1),
		"far back":             packedItem("n", "\x03\x02\x00", 5, sum),
	} {
		t.Run(what, func(t *testing.T) { reads(t, i, "", api.ErrDamaged) })
	}
	i := item("n", text)
	i.Sum ^= 1 << 31
	reads(t, i, "", api.ErrDamaged)
	i = item("n", "")
	i.Sum = 1
	reads(t, i, "", api.ErrDamaged)
}

func TestReadLate(t *testing.T) { // P17.7: a descriptor is no part of the packed text
	content := "PK\x03\x04\x14\x00\x08\x00\x00\x00\x00\x00\x00\x00" + zeros(12) + "\x01\x00\x00\x00ahi" +
		"PK\x07\x08\xac\x2a\x93\xd8\x02\x00\x00\x00\x02\x00\x00\x00" +
		"PK\x01\x02\x14\x00\x14\x00\x08\x00\x00\x00\x00\x00\x00\x00\xac\x2a\x93\xd8\x02\x00\x00\x00\x02\x00\x00\x00\x01\x00" + zeros(16) + "a" +
		"PK\x05\x06\x00\x00\x00\x00\x01\x00\x01\x00\x2f\x00\x00\x00\x31\x00\x00\x00\x00\x00"
	d, v := over(t, content, 4096)
	has(t, d, v, "a", "hi")
	goes(t, v.Rename("a", "b"))
	goes(t, v.Add("a", nil, stored))
	has(t, d, v, "a", "", "b", "hi")
}

func TestVerify(t *testing.T) { // P17.8: rising, and just those that are damaged, however many
	from := rand.New(rand.NewSource(178))
	for _, n := range []int{0, 1, 7, 8, 9, 16, 17, 300} {
		for range 6 {
			var items []api.Item
			var want []string
			for i := range n {
				name, text := fmt.Sprintf("%03d", i), strings.Repeat("text ", from.Intn(50))
				x := item(name, text)
				if from.Intn(2) == 0 {
					x = packedItem(name, deflated(t, text, 1+from.Intn(9)), len(text), x.Sum)
				}
				if from.Intn(3) == 0 {
					x.Sum++
					want = append(want, name)
				}
				items = append(items, x)
			}
			from.Shuffle(n, func(i, j int) { items[i], items[j] = items[j], items[i] })
			d, v := over(t, laid(t, items...), most)
			still(t, d, func() {
				if got, err := v.Verify(); !slices.Equal(got, want) || err != nil {
					t.Errorf("Verify = %q, %v, want %q", got, err, want)
				}
			})
			mapOf(t, d, v)
		}
	}
}

func TestDamageStays(t *testing.T) { // P17.10: an entry that is damaged is renamed, deleted and laid elsewhere like any other
	x := item("b", "some text")
	x.Sum++
	d, v := over(t, laid(t, item("a", "one"), x, item("c", "two")), 9000)
	lost := func(name string) {
		t.Helper()
		got, _ := mapOf(t, d, v)
		if !got[name].Lost || len(got) < 2 {
			t.Errorf("%q: %v", name, got)
		}
	}
	lost("b")
	goes(t, v.Delete("a"))
	goes(t, v.Compact())
	lost("b")
	goes(t, v.Rename("b", "longer than before"))
	lost("longer than before")
	puts(t, v, "longer than before", "mended")
	has(t, d, v, "c", "two", "longer than before", "mended")
}

func TestCutByOtherHands(t *testing.T) { // P0.8 promises nothing here, P0.1 that no call panics
	image := filled(t, "", "a", strings.Repeat("a", 600), "b", strings.Repeat("b", 600))
	for _, size := range []int{0, 1, 30, 31, 100, 640, 700, len(image) - 1, len(image) + 5000} {
		d, v := over(t, image, 9000)
		d.Truncate(size)
		askAll(v)
		names(v)
		goes(t, v.Close())
	}
}
