package valise_test

import (
	"testing"

	"valise/api"
	"valise/valise"
)

func TestExamples(t *testing.T) { // examples 1 to 5
	d, v := over(t, "", 8192)
	if l, err := v.List(); v.Found() != (api.Verdict{}) || len(l) != 0 || err != nil {
		t.Errorf("Found %v, List %v, %v", v.Found(), l, err)
	}
	sized(t, v, 0)
	_, err := v.Read("a")
	fails(t, err, "read", "a", 150)

	goes(t, v.Add("a", []byte("hello"), stored))
	sized(t, v, 105)
	want := api.Info{Name: "a", Size: 5, Packed: 5, Sum: 907060870, Stamp: epoch}
	if i, err := v.Stat("a"); i != want || err != nil || want.Sum != 0x3610a686 {
		t.Errorf("Stat = %v, %v", i, err)
	}

	goes(t, v.Add("b", nil, stored))
	sized(t, v, 183)
	goes(t, v.Delete("a"))
	sized(t, v, 136)
	has(t, d, v, "b", "")

	goes(t, v.Compact())
	sized(t, v, 100)
	still(t, d, func() { goes(t, v.Compact()) })

	still(t, d, func() {
		fails(t, v.Add("", []byte("x"), stored), "add", "", api.ErrName)
		fails(t, v.Add("a/../b", []byte("x"), stored), "add", "a/../b", api.ErrName)
		how := stored
		how.Method = 3
		fails(t, v.Add("a", []byte("x"), how), "add", "a", api.ErrArg)
		how = stored
		how.Stamp.Year = 1979
		fails(t, v.Add("a", []byte("x"), how), "add", "a", api.ErrStamp)
		fails(t, v.Rename("a", "b"), "rename", "a", api.ErrAbsent)
		fails(t, v.Rename("b", "b"), "rename", "b", api.ErrTaken)
		fails(t, v.Rename("b", "/"), "rename", "b", api.ErrName)
	})
}

func TestExampleMany(t *testing.T) { // example 6
	d := holds(t, "", 8192)
	v := limited(t, d, api.Options{MaxEntries: 1})
	puts(t, v, "a", "x")
	fails(t, v.Add("b", nil, stored), "add", "b", api.ErrMany)
	puts(t, v, "a", "y")
	has(t, d, v, "a", "y")
}

func TestExampleFuse(t *testing.T) { // example 7
	d, v := over(t, "", 8192)
	puts(t, v, "b", "")
	d.Fuse(3)
	fails(t, v.Add("c", []byte("x"), stored), "add", "c", api.ErrDiskPower)
	for image := range crashes(t, d) {
		found, w := over(t, image, 8192)
		has(t, found, w, "b", "")
	}
}

func TestExampleBatch(t *testing.T) { // example 8
	steps := []api.Step{{Kind: api.StepAdd, Name: "c", Data: []byte("x"), How: stored}, {Kind: api.StepRename, Name: "c", To: "d"}, {Kind: api.StepDelete, Name: "nowhere"}}
	for fuse := range 14 {
		d, v := over(t, "", 8192)
		puts(t, v, "b", "")
		still(t, d, func() { fails(t, v.Batch(steps...), "batch", "nowhere", 150) })
		d.Fuse(fuse)
		err := v.Batch(steps[:2]...)
		if err == nil {
			has(t, d, v, "b", "", "d", "x")
		} else {
			fails(t, err, "batch", "", api.ErrDiskPower)
		}
		for image := range crashes(t, d) {
			found, w := over(t, image, 8192)
			if _, e := w.Stat("d"); e == nil {
				has(t, found, w, "b", "", "d", "x")
			} else {
				has(t, found, w, "b", "")
			}
		}
		if err == nil && fuse < 12 {
			t.Errorf("Fuse(%d): the batch goes through", fuse)
		}
	}
}

func TestExampleClose(t *testing.T) { // example 9
	_, v := over(t, "", 8192)
	goes(t, v.Close())
	_, err := v.List()
	fails(t, err, "list", "", 171)
	fails(t, v.Close(), "close", "", 171)
}

// The examples of DOC.md, by calls instead of by lines.

func TestWholeExamples(t *testing.T) { // 1 to 5
	d, v := over(t, "", 8192)
	has(t, d, v)
	puts(t, v, "a", "hello")
	sized(t, v, 105)
	puts(t, v, "b", "")
	sized(t, v, 183)
	goes(t, v.Delete("a"))
	sized(t, v, 136)
	goes(t, v.Compact())
	sized(t, v, 100)
	goes(t, v.Compact())
	if d.Calls() != 47 || d.Size() != 100 {
		t.Errorf("%d changing calls, %d bytes", d.Calls(), d.Size())
	}

	_, v = over(t, "", 8192)
	goes(t, v.Add("a", []byte("aaaa"), packed))
	sized(t, v, 104)
	want := api.Info{Name: "a", Method: 8, Size: 4, Packed: 4, Sum: 0xad98e545, Stamp: epoch}
	if i, err := v.Stat("a"); i != want || err != nil {
		t.Errorf("Stat = %v, %v", i, err)
	}

	_, v = over(t, "", 8192)
	fails(t, v.Add("../a", []byte("x"), packed), "add", "../a", 120)
	_, err := v.Read("a")
	fails(t, err, "read", "a", 150)
	fails(t, v.Delete("a"), "delete", "a", 150)
	fails(t, v.Rename("a", "b"), "rename", "a", 150)
}

func TestWholeExampleCrashes(t *testing.T) { // 6 and 7
	for _, x := range []struct {
		fuse    int
		choice  api.Choice
		found   api.Verdict
		entries []string
	}{
		{3, api.Choice{Size: 1, Rest: 1}, api.Verdict{State: 2, Seq: 2, Size: 101}, []string{"a", "x"}},
		{9, api.Choice{}, api.Verdict{State: 3, Seq: 2, Size: 101}, []string{"a", "x"}},
		{9, api.Choice{Rest: 1}, api.Verdict{State: 4, Seq: 2, Size: 180}, []string{"a", "x", "b", "y"}},
	} {
		d, v := over(t, "", 8192)
		puts(t, v, "a", "x")
		sized(t, v, 101)
		d.Fuse(x.fuse)
		fails(t, v.Add("b", []byte("y"), stored), "add", "b", 12)
		found, _ := d.Crash(x.choice)
		if found.Size() != 2149 {
			t.Errorf("%d bytes are found", found.Size())
		}
		w := opened(t, found)
		if w.Found() != x.found {
			t.Errorf("Found %v, want %v", w.Found(), x.found)
		}
		has(t, found, w, x.entries...)
	}
}

func TestWholeExampleOptions(t *testing.T) { // 8 and 9
	d, v := over(t, "", 8192)
	goes(t, v.Batch(api.Step{Name: "a", Data: []byte("x"), How: stored}, api.Step{Name: "b", Data: []byte("y"), How: stored}))
	sized(t, v, 180)
	has(t, d, v, "a", "x", "b", "y")

	v, err := valise.Open(holds(t, "", 8192), api.Options{MaxEntries: 1, MaxData: 3})
	goes(t, err)
	fails(t, v.Add("a", []byte("wxyz"), packed), "add", "a", 153)
	goes(t, v.Add("a", []byte("wxy"), packed))
	sized(t, v, 105)
	fails(t, v.Add("b", []byte("x"), packed), "add", "b", 152)
	goes(t, v.Add("a", nil, packed))
	sized(t, v, 102)
}
