package tape_test

import (
	"bytes"
	"compress/flate"
	"errors"
	"fmt"
	"reflect"
	"slices"
	"strings"
	"testing"
	"time"

	"valise/api"
	"valise/disk"
	"valise/field"
	"valise/layout"
	"valise/record"
	"valise/tape"
	"valise/valise"
)

var (
	firstDay = api.Stamp{Year: 1980, Month: 1, Day: 1}
	stored   = api.How{Stamp: firstDay}
	packed   = api.How{Method: api.MethodDeflate, Level: 6, Stamp: firstDay}
)

// over is an open archive over a file of these bytes, and its disk.
func over(t *testing.T, image string, capacity int) (*disk.Disk, *valise.Valise) {
	t.Helper()
	d, e := disk.New([]byte(image), capacity)
	if e != api.OK {
		t.Fatalf("New: %d", e)
	}
	v, err := valise.Open(d, api.Options{})
	goes(t, err)
	return d, v
}

func goes(t *testing.T, err error) {
	t.Helper()
	if err != nil {
		t.Fatalf("the error %v", err)
	}
}

// fails asks for a fault, and for its number in it.
func fails(t *testing.T, err error, call, name string, reason api.Errno) {
	t.Helper()
	var f *api.Fault
	if !errors.As(err, &f) || *f != (api.Fault{Call: call, Name: name, Reason: reason}) || !errors.Is(err, reason) {
		t.Fatalf("the error %.200v, want {%s %.100q %d}", err, call, name, reason)
	}
}

// exports asks Export for these files, and tells the tape.
func exports(t *testing.T, v *valise.Valise, files ...api.File) string {
	t.Helper()
	data, err := tape.Export(v)
	goes(t, err)
	if want, e := plainPut(files); string(data) != want || e != api.OK {
		got, _ := tape.Get(data)
		t.Fatalf("Export: %s, want %s", brief(got...), brief(files...))
	}
	return string(data)
}

func refusesExport(t *testing.T, v *valise.Valise, call, name string, reason api.Errno) {
	t.Helper()
	data, err := tape.Export(v)
	fails(t, err, call, name, reason)
	if data != nil {
		t.Fatalf("Export: %d bytes beside an error", len(data))
	}
}

// imports asks Import for so many files.
func imports(t *testing.T, v *valise.Valise, data string, how api.How, count int) {
	t.Helper()
	n, err := tape.Import(v, []byte(data), how)
	if n != count || err != nil {
		t.Fatalf("Import: %d, %v, want %d", n, err, count)
	}
}

func refusesImport(t *testing.T, v *valise.Valise, data string, how api.How, call, name string, reason api.Errno) {
	t.Helper()
	n, err := tape.Import(v, []byte(data), how)
	fails(t, err, call, name, reason)
	if n != 0 {
		t.Fatalf("Import: %d beside an error", n)
	}
}

// tapeWith is a tape of these files.
func tapeWith(t *testing.T, files ...api.File) string {
	t.Helper()
	data, e := plainPut(files)
	if e != api.OK {
		t.Fatalf("no tape: %d", e)
	}
	return data
}

// entries tells all of an archive: each entry's Info and its plain text.
func entries(t *testing.T, v *valise.Valise) map[api.Info]string {
	t.Helper()
	infos, err := v.List()
	goes(t, err)
	all := map[api.Info]string{}
	for _, x := range infos {
		data, err := v.Read(x.Name)
		goes(t, err)
		all[x] = string(data)
	}
	return all
}

// plainSeconds is the time of a stamp, as Go's own library counts.
func plainSeconds(s api.Stamp) int {
	if s == (api.Stamp{}) {
		return 0
	}
	return int(time.Date(s.Year, time.Month(s.Month), s.Day, s.Hour, s.Minute, s.Second, 0, time.UTC).Unix())
}

// plainStamp is the stamp of a time.
func plainStamp(seconds int) api.Stamp {
	x := time.Unix(int64(seconds), 0).UTC()
	switch {
	case x.Before(time.Date(1980, 1, 1, 0, 0, 0, 0, time.UTC)):
		return firstDay
	case x.After(time.Date(2107, 12, 31, 23, 59, 58, 0, time.UTC)):
		return api.Stamp{Year: 2107, Month: 12, Day: 31, Hour: 23, Minute: 59, Second: 58}
	}
	return api.Stamp{Year: x.Year(), Month: int(x.Month()), Day: x.Day(), Hour: x.Hour(), Minute: x.Minute(), Second: x.Second()}
}

func TestExportNothing(t *testing.T) { // P24.6
	_, v := over(t, "", 4096)
	exports(t, v)
	goes(t, v.Compact())
	exports(t, v)
	goes(t, v.SetNote("a comment"))
	exports(t, v)
}

func TestExportOrder(t *testing.T) { // P24.6: by rising name, folders and files
	_, v := over(t, "", 1<<16)
	for _, name := range []string{"b", "a/", "é", "a", "a/b", "B", "a b", "z/", "a/b/"} {
		var data []byte
		if !strings.HasSuffix(name, "/") {
			data = []byte("of " + name)
		}
		how := packed
		how.Note, how.Mode = "a note", len(name)
		goes(t, v.Add(name, data, how))
	}
	var want []api.File
	for _, name := range []string{"B", "a", "a b", "a/", "a/b", "a/b/", "b", "z/", "é"} {
		f := api.File{Name: name, Mode: len(name), Time: 315532800, Data: []byte("of " + name)}
		if strings.HasSuffix(name, "/") {
			f.Kind, f.Data = 5, nil
		}
		want = append(want, f)
	}
	exports(t, v, want...)
}

func TestExportTimes(t *testing.T) { // P24.6: each day that an archive keeps, and each second of one
	exported := func(stamps []api.Stamp) {
		var items []api.Item
		var want []api.File
		for i, s := range stamps {
			x := item(nameOf(i), "")
			x.Date, x.Clock, _ = record.PackStamp(s)
			items = append(items, x)
			want = append(want, api.File{Name: nameOf(i), Mode: 420, Time: plainSeconds(s)})
		}
		_, v := over(t, laid(t, items...), 1<<17)
		exports(t, v, want...)
	}
	for year := 1980; year <= 2107; year++ {
		var stamps []api.Stamp
		for x := time.Date(year, 1, 1, 12, 34, 56, 0, time.UTC); x.Year() == year; x = x.AddDate(0, 0, 1) {
			stamps = append(stamps, plainStamp(int(x.Unix())))
		}
		exported(stamps)
	}
	var stamps []api.Stamp
	for i := range 60 {
		stamps = append(stamps, api.Stamp{Year: 2107, Month: 12, Day: 31, Hour: i % 24, Minute: i, Second: 58 - i/2*2}, api.Stamp{Year: 2100, Month: 3, Day: 1, Hour: 23 - i%24, Minute: 59 - i, Second: i / 2 * 2})
	}
	exported(stamps)
}

func nameOf(i int) string { return fmt.Sprintf("f%03d", i) }

// item is a stored entry of the mode 420, of 1980-01-01 0:00:00.
func item(name, data string) api.Item {
	l := api.Local{Need: 10, Date: 33, Sum: field.Sum([]byte(data)), Packed: len(data), Size: len(data), Name: name}
	return api.Item{Central: api.Central{Local: l, Made: 788, External: 420 << 16}, Bytes: []byte(data)}
}

// laid is an archive of these entries.
func laid(t *testing.T, items ...api.Item) string {
	t.Helper()
	file, e := layout.Render(items, "")
	if e != api.OK {
		t.Fatalf("Render: %d", e)
	}
	return string(file)
}

func TestExportForeign(t *testing.T) { // P24.6: entries of other programs, without a time and without a mode
	none, odd, dos := item("none", "text"), item("odd", "text"), item("dos", "text")
	none.Date = 0
	odd.Date, odd.Clock = 33+1<<9, 24<<11 // there is no hour 24
	dos.Made, dos.External = 20, 0x41ed0010
	full := item("full", "text")
	full.Made, full.External = 3<<8|63, 0xffff0021
	folder := item("z/", "")
	_, v := over(t, laid(t, odd, none, full, dos, folder), 1<<14)
	text := []byte("text")
	exports(t, v,
		api.File{Name: "dos", Time: 315532800, Data: text}, api.File{Name: "full", Mode: 65535, Time: 315532800, Data: text},
		api.File{Name: "none", Mode: 420, Data: text}, api.File{Name: "odd", Mode: 420, Data: text}, api.File{Name: "z/", Kind: 5, Mode: 420, Time: 315532800})
}

func TestExportUnsound(t *testing.T) { // P24.6: a folder with data, a name that doesn't fit
	n := func(n int) string { return strings.Repeat("n", n) }
	for name, fits := range map[string]bool{
		n(100): true, n(101): false, n(155) + "/" + n(100): true, n(156) + "/n": false, n(60) + "/" + n(101): false, n(100) + "/": false, n(99) + "/": true,
		n(154) + "/n/": true, n(155) + "/n/": true, n(10000): false, "é/" + n(100): true, n(50) + "/" + n(50) + "/": true,
	} {
		_, v := over(t, "", 1<<17)
		f := api.File{Name: name, Time: 315532800, Mode: 1}
		if strings.HasSuffix(name, "/") {
			f.Kind = 5
		} else {
			f.Data = []byte("data")
		}
		goes(t, v.Add(name, f.Data, api.How{Stamp: firstDay, Mode: 1}))
		if fits {
			exports(t, v, f)
			continue
		}
		refusesExport(t, v, "export", name, api.ErrTapeField)
		goes(t, v.Add("a", nil, stored))
		refusesExport(t, v, "export", name, api.ErrTapeField)
		goes(t, v.Add("a/", []byte("data"), stored))
		refusesExport(t, v, "export", "a/", api.ErrTapeField)
	}
}

// damaged is an archive of entries of these names, each with the data "data" and stored, of which those behind a "!" are damaged.
func damaged(t *testing.T, names ...string) *valise.Valise {
	t.Helper()
	d, v := over(t, "", 1<<16)
	for _, name := range names {
		goes(t, v.Add(strings.TrimPrefix(name, "!"), []byte("data"), stored))
	}
	image := string(d.Image())
	for _, name := range names {
		if bad, is := strings.CutPrefix(name, "!"); is {
			image = strings.Replace(image, bad+"data", bad+"Data", 1)
		}
	}
	_, v = over(t, image, 1<<16)
	return v
}

func TestExportDamaged(t *testing.T) { // P24.6: entry by entry, in the order of the names
	long := strings.Repeat("l", 101)
	refusesExport(t, damaged(t, "!a"), "read", "a", api.ErrDamaged)
	refusesExport(t, damaged(t, "x", "!c", "!b", "a"), "read", "b", api.ErrDamaged)
	refusesExport(t, damaged(t, "!b", "a/"), "export", "a/", api.ErrTapeField)
	refusesExport(t, damaged(t, "!a/"), "read", "a/", api.ErrDamaged) // what Read answers is ahead
	refusesExport(t, damaged(t, "!"+long), "read", long, api.ErrDamaged)
	refusesExport(t, damaged(t, "!a", long), "read", "a", api.ErrDamaged)
	refusesExport(t, damaged(t, long, "!m"), "export", long, api.ErrTapeField)
	refusesExport(t, damaged(t, long, "!k"), "read", "k", api.ErrDamaged)
}

// vast is an entry of so many zero bytes. Another program packs them, which takes little time.
func vast(t *testing.T, name string, size int) api.Item {
	t.Helper()
	plain := make([]byte, size)
	var text bytes.Buffer
	w, err := flate.NewWriter(&text, 9)
	goes(t, err)
	w.Write(plain)
	goes(t, w.Close())
	x := item(name, "")
	x.Method, x.Need, x.Sum, x.Packed, x.Size, x.Bytes = api.MethodDeflate, 20, field.Sum(plain), text.Len(), size, text.Bytes()
	return x
}

func TestExportTooLong(t *testing.T) { // P24.6: the last of the errors
	long := strings.Repeat("n", 101)
	for size, length := range map[int]int{most - 2048: most, most - 2048 - 511: most, most - 2048 - 512: most - 512, most - 2048 + 1: 0, most: 0} {
		b := vast(t, "b", size)
		archive := func(more ...api.Item) *valise.Valise {
			_, v := over(t, laid(t, append(more, item("a/", ""), b)...), 1<<18)
			return v
		}
		data, err := tape.Export(archive())
		if length > 0 {
			if len(data) != length || err != nil {
				t.Fatalf("of %d bytes: %d, %v", size, len(data), err)
			}
		} else {
			refusesExport(t, archive(), "export", "", api.ErrArg)
		}
		if data, err := tape.Export(archive(item("c", ""))); length == most-512 && (len(data) != most || err != nil) {
			t.Fatalf("of %d bytes and an entry more: %d, %v", size, len(data), err)
		}
		refusesExport(t, archive(item("c", "x")), "export", "", api.ErrArg)
		refusesExport(t, archive(item(long, "")), "export", long, api.ErrTapeField)
		refusesExport(t, archive(item("d/", "x")), "export", "d/", api.ErrTapeField)
	}
}

func TestExportTooLongDamaged(t *testing.T) { // P24.6: what Read answers is ahead
	bad := item("z", "data")
	bad.Sum++
	a, b, c := vast(t, "a", most), vast(t, "b", most), vast(t, "c", most)
	_, v := over(t, laid(t, a, b, c), 1<<18)
	refusesExport(t, v, "export", "", api.ErrArg)
	_, v = over(t, laid(t, a, b, c, bad), 1<<18)
	refusesExport(t, v, "read", "z", api.ErrDamaged)
}

func TestHandles(t *testing.T) { // P24.6, P24.7, P0.6: nil, closed, dead
	good, bad := tapeWith(t, a()), zeros(100)
	link := tapeWith(t, a(), api.File{Name: "l", Kind: 2, Link: "a"}, api.File{Name: "m", Kind: 2, Link: "a"})
	d, dead := over(t, "", 4096)
	d.Fuse(0)
	fails(t, dead.Add("x", nil, stored), "add", "x", api.ErrDiskPower)
	_, closed := over(t, "", 4096)
	goes(t, closed.Close())
	for v, reason := range map[*valise.Valise]api.Errno{nil: api.ErrArg, closed: api.ErrClosed, dead: api.ErrDiskPower} {
		refusesExport(t, v, "list", "", reason)
		refusesImport(t, v, good, stored, "batch", "", reason)
		refusesImport(t, v, good, api.How{Method: 3}, "batch", "", reason)
		refusesImport(t, v, zeros(1024), stored, "batch", "", reason)
		refusesImport(t, v, bad, stored, "import", "", api.ErrTapeShort)
		refusesImport(t, v, link, stored, "import", "l", api.ErrTapeField)
	}
}

func TestImportRefused(t *testing.T) { // P24.7: the errors and their order, and that nothing is done
	d, v := over(t, "", 1<<16)
	goes(t, v.Add("kept", []byte("text"), stored))
	image, calls := string(d.Image()), d.Calls()
	link := api.File{Name: "l", Kind: 2, Link: "to"}
	bad := api.File{Name: "../x"}
	big := api.File{Name: "big", Data: []byte(strings.Repeat("text", 1<<14))}
	spoilt := []byte(tapeWith(t, a()))
	spoilt[0]++
	limit, err := valise.Open(d, api.Options{MaxEntries: 2, MaxData: 100})
	goes(t, err)
	for _, x := range []struct {
		v          *valise.Valise
		data       string
		how        api.How
		call, name string
		reason     api.Errno
	}{
		{v, zeros(100), stored, "import", "", api.ErrTapeShort},
		{v, "", stored, "import", "", api.ErrTapeShort},
		{v, string(spoilt), stored, "import", "", api.ErrTapeSum},
		{v, zeros(512) + strings.Repeat("x", 512), stored, "import", "", api.ErrTapeHead},
		{v, zeros(most + 1), stored, "import", "", api.ErrArg},
		{v, zeros(100), api.How{Method: 3}, "import", "", api.ErrTapeShort},
		{v, tapeWith(t, bad, link)[:2000], stored, "import", "", api.ErrTapeShort},
		{v, tapeWith(t, a(), bad, link), api.How{Method: 3}, "import", "l", api.ErrTapeField},
		{v, tapeWith(t, a(), bad), api.How{Method: 3}, "batch", "a", api.ErrArg},
		{v, tapeWith(t, a()), api.How{Level: 10}, "batch", "a", api.ErrArg},
		{v, tapeWith(t, a()), api.How{Level: -1}, "batch", "a", api.ErrArg},
		{v, tapeWith(t, a()), api.How{Note: strings.Repeat("n", 65536)}, "batch", "a", api.ErrArg},
		{v, tapeWith(t, a(), bad), stored, "batch", "../x", api.ErrName},
		{v, tapeWith(t, a(), api.File{Name: "/", Kind: 5}), stored, "batch", "/", api.ErrName},
		{v, tapeWith(t, api.File{Name: "\xff"}), stored, "batch", "\xff", api.ErrName},
		{v, tapeWith(t, a(), big), stored, "batch", "", api.ErrFull},
		{limit, tapeWith(t, a(), api.File{Name: "b"}), stored, "batch", "b", api.ErrMany},
		{limit, tapeWith(t, big), stored, "batch", "big", api.ErrBig},
	} {
		refusesImport(t, x.v, x.data, x.how, x.call, x.name, x.reason)
		if string(d.Image()) != image || d.Calls() != calls {
			t.Fatalf("the file was changed: %d calls", d.Calls())
		}
		if read, err := x.v.Read("kept"); string(read) != "text" || err != nil {
			t.Fatalf("the archive was changed: %q, %v", read, err)
		}
	}
	imports(t, limit, tapeWith(t, a(), a(), api.File{Name: "kept"}), stored, 3)
}

func TestImportNothing(t *testing.T) { // P24.7: no files, no change, whatever how says
	d, v := over(t, "", 0)
	imports(t, v, zeros(1024), stored, 0)
	imports(t, v, zeros(1024)+"behind", api.How{Method: 3}, 0)
	if d.Calls() != 0 || d.Size() != 0 {
		t.Errorf("%d calls, %d bytes", d.Calls(), d.Size())
	}
}

func TestImportHow(t *testing.T) { // P24.7: Method, Level and Note are how's, the rest is the tape's
	files := []api.File{{Name: "d/", Kind: 5, Mode: 16877, Time: 1794960000}, {Name: "a", User: "me", Team: "us", Owner: 5, Group: 6, Mode: 420, Time: 1794960001, Data: []byte(strings.Repeat("text", 100))}}
	for method, level := range map[int]int{api.MethodStore: 9, api.MethodDeflate: 3} {
		for _, how := range []api.How{{}, {Mode: -1}, {Mode: 65536}, {Mode: 7, Stamp: api.Stamp{Year: 1999, Month: 9, Day: 9}}, {Stamp: api.Stamp{Month: 13}}} {
			how.Method, how.Level, how.Note = method, level, "a note"
			_, v := over(t, "", 1<<14)
			imports(t, v, tapeWith(t, files...), how, 2)
			_, w := over(t, "", 1<<14)
			goes(t, w.Batch(
				api.Step{Name: "d/", How: api.How{Method: method, Level: level, Note: "a note", Mode: 16877, Stamp: api.Stamp{Year: 2026, Month: 11, Day: 18, Hour: 0}}},
				api.Step{Name: "a", Data: files[1].Data, How: api.How{Method: method, Level: level, Note: "a note", Mode: 420, Stamp: api.Stamp{Year: 2026, Month: 11, Day: 18, Second: 1}}},
			))
			if got, want := entries(t, v), entries(t, w); !reflect.DeepEqual(got, want) {
				t.Errorf("%v, want %v", got, want)
			}
		}
	}
}

func TestImportModes(t *testing.T) { // P24.7: less 65536 as often as it is above 65535
	for _, mode := range []int{0, 1, 420, 65535, 65536, 65537, 131071, 131072, 131073, 2097151, 2097152 - 65536} {
		_, v := over(t, "", 4096)
		imports(t, v, tapeWith(t, api.File{Name: "a", Mode: mode}), stored, 1)
		want := mode
		for want > 65535 {
			want -= 65536
		}
		if x, err := v.Stat("a"); x.Mode != want || err != nil {
			t.Errorf("the mode %d: %v, %v", mode, x, err)
		}
	}
}

func TestImportTimes(t *testing.T) { // P24.7: each month's edges, and what is too early or too late
	const day = 86400
	times := []int{0, 1, 315532799, 315532800, 315532801, 315532802, 4354819197, 4354819198, 4354819199, 4354819200, 1 << 32, 8589934591, 1794960000, 951782399, 951782400, 951868799, 951868800}
	for at := 315532800; at < 4354819199; at += 27 * day {
		x := time.Unix(int64(at), 0).UTC()
		month := int(time.Date(x.Year(), x.Month(), 1, 0, 0, 0, 0, time.UTC).Unix())
		times = append(times, at+at/day%day, month-2, month, month-day)
	}
	for some := range slices.Chunk(times, 100) {
		var files []api.File
		for i, at := range some {
			files = append(files, api.File{Name: nameOf(i), Time: at})
		}
		_, v := over(t, "", 1<<18)
		imports(t, v, tapeWith(t, files...), stored, len(files))
		for i, at := range some {
			want := plainStamp(at)
			want.Second -= want.Second % 2
			if x, err := v.Stat(nameOf(i)); x.Stamp != want || err != nil {
				t.Fatalf("the time %d: %v, %v, want %v", at, x.Stamp, err, want)
			}
		}
	}
}

func TestImportTwice(t *testing.T) { // P24.7: a name several times, and names that are there
	_, v := over(t, "", 1<<14)
	goes(t, v.Add("a", []byte("old"), packed))
	goes(t, v.Add("kept", []byte("old"), packed))
	one, two, other := a(), a(), a()
	one.Data, two.Data, two.Mode, other.Name = []byte("one"), []byte("two"), 2, "b"
	imports(t, v, tapeWith(t, one, other, two), stored, 3)
	exports(t, v, api.File{Name: "a", Mode: 2, Time: 315532800, Data: []byte("two")}, api.File{Name: "b", Mode: 420, Time: 315532800, Data: []byte("hi")}, api.File{Name: "kept", Time: 315532800, Data: []byte("old")})
}

func TestTellsOnly(t *testing.T) { // P0.10: Export makes no changing call
	bad := item("b", "text")
	bad.Sum++
	for _, more := range []api.Item{item("b", "text"), item("b/", "text"), bad} {
		file := laid(t, item("a", "text"), more)
		d, v := over(t, file, 1<<14)
		tape.Export(v)
		if d.Calls() != 0 || string(d.Image()) != file {
			t.Errorf("Export made %d changing calls", d.Calls())
		}
	}
}

func TestImportCrash(t *testing.T) { // P24.7: at one stroke, wherever the power fails
	old := []api.File{{Name: "a", Mode: 420, Time: 315532800, Data: []byte("old")}, {Name: "c", Time: 315532800, Data: []byte("kept")}}
	changed := []api.File{{Name: "a", Mode: 420, Time: 315532800, Data: []byte(strings.Repeat("new", 300))}, {Name: "b/", Kind: 5, Time: 315532800}, {Name: "c", Time: 315532800, Data: []byte("kept")}}
	first, v := over(t, "", 1<<14)
	imports(t, v, tapeWith(t, old...), stored, 2)
	image := string(first.Image())
	met := map[bool]int{}
	for fuse := 0; ; fuse++ {
		d, v := over(t, image, 1<<14)
		d.Fuse(fuse)
		n, err := tape.Import(v, []byte(tapeWith(t, changed[:2]...)), stored)
		if err == nil {
			if n != 2 || fuse == 0 {
				t.Fatalf("Import: %d files, %d calls", n, fuse)
			}
			break
		}
		fails(t, err, "batch", "", api.ErrDiskPower)
		for size := range 4 {
			for rest := range 4 {
				d, e := d.Crash(api.Choice{Size: size, Rest: rest})
				if e != api.OK {
					t.Fatalf("Crash: %d", e)
				}
				v, err := valise.Open(d, api.Options{})
				goes(t, err)
				data, err := tape.Export(v)
				goes(t, err)
				was := string(data) == tapeWith(t, old...)
				if !was && string(data) != tapeWith(t, changed...) {
					t.Fatalf("the power failed at the call %d: neither archive", fuse)
				}
				met[was]++
			}
		}
	}
	if met[true] == 0 || met[false] == 0 {
		t.Errorf("the old archive %d times, the new one %d times", met[true], met[false])
	}
}
