package mirror_test

import (
	"errors"
	"fmt"
	"slices"
	"strings"
	"testing"

	"valise/api"
	"valise/disk"
	"valise/field"
	"valise/layout"
	"valise/mirror"
	"valise/valise"
)

var (
	firstDay = api.Stamp{Year: 1980, Month: 1, Day: 1}
	stored   = api.How{Stamp: firstDay}
	packed   = api.How{Method: api.MethodDeflate, Level: 6, Stamp: api.Stamp{Year: 2026, Month: 11, Day: 19, Hour: 5, Minute: 43, Second: 59}, Mode: 420, Note: "a note"}
)

// is asks Match whether a name is of a pattern.
func is(t *testing.T, pattern, name string, want bool) {
	t.Helper()
	if got, e := mirror.Match(pattern, name); got != want || e != api.OK {
		t.Errorf("Match(%.200q, %.200q) = %v, %d, want %v", pattern, name, got, e, want)
	}
}

// no asks Match for an error.
func no(t *testing.T, pattern, name string, want api.Errno) {
	t.Helper()
	if got, e := mirror.Match(pattern, name); got || e != want {
		t.Errorf("Match(%.200q, %.200q) = %v, %d, want the error %d", pattern, name, got, e, want)
	}
}

// over is an open archive over a file of these bytes, and its disk.
func over(t *testing.T, image string, capacity int) (*disk.Disk, *valise.Valise) {
	t.Helper()
	d, e := disk.New([]byte(image), capacity)
	if e != api.OK {
		t.Fatalf("New: %d", e)
	}
	v, err := valise.Open(d, api.Options{})
	goes(t, err)
	return d, v
}

func goes(t *testing.T, err error) {
	t.Helper()
	if err != nil {
		t.Fatalf("the error %.300v", err)
	}
}

// fails asks for a fault, and for its number in it.
func fails(t *testing.T, err error, call, name string, reason api.Errno) {
	t.Helper()
	var f *api.Fault
	if !errors.As(err, &f) || *f != (api.Fault{Call: call, Name: name, Reason: reason}) || !errors.Is(err, reason) {
		t.Fatalf("the error %.300v, want {%s %.100q %d}", err, call, name, reason)
	}
}

// wanted is a want that is stored.
func wanted(name, data string) api.Want { return api.Want{Name: name, Data: []byte(data), How: stored} }

// mirrors asks Mirror for such a count, and the archive for what is then there.
func mirrors(t *testing.T, v *valise.Valise, done api.Done, want ...api.Want) {
	t.Helper()
	if got, err := mirror.Mirror(v, want...); got != done || err != nil {
		t.Fatalf("Mirror: %v, %v, want %v", got, err, done)
	}
	like(t, v, want)
}

// like asks for the last sentence of P25.5.
func like(t *testing.T, v *valise.Valise, want []api.Want) {
	t.Helper()
	last := map[string]api.Want{}
	for _, w := range want {
		last[w.Name] = w
	}
	infos, err := v.List()
	goes(t, err)
	if len(infos) != len(last) {
		t.Fatalf("%d entries, want %d", len(infos), len(last))
	}
	for _, x := range infos {
		w, ok := last[x.Name]
		if !ok {
			t.Fatalf("%q is not wanted", x.Name)
		}
		data, err := v.Read(x.Name)
		if string(data) != string(w.Data) || err != nil {
			t.Fatalf("%q: %.100q, %v, want %.100q", x.Name, data, err, w.Data)
		}
		stamp := w.How.Stamp
		stamp.Second = stamp.Second / 2 * 2
		told := api.Info{Name: w.Name, Size: len(w.Data), Packed: x.Packed, Sum: field.Sum(w.Data), Method: w.How.Method, Mode: w.How.Mode, Note: w.How.Note, Stamp: stamp}
		if x != told {
			t.Fatalf("%v, want %v", x, told)
		}
		if stat, err := v.Stat(x.Name); stat != told || err != nil {
			t.Fatalf("Stat: %v, %v, want %v", stat, err, told)
		}
	}
	if damaged, err := v.Verify(); len(damaged) > 0 || err != nil {
		t.Fatalf("damaged: %q, %v", damaged, err)
	}
}

// counts asks a call for a count.
func counts(t *testing.T, want int) func(int, error) {
	return func(n int, err error) {
		t.Helper()
		if n != want || err != nil {
			t.Fatalf("%d, %v, want %d", n, err, want)
		}
	}
}

// refuses asks a call for a fault, and for no count beside it.
func refuses(t *testing.T, call, name string, reason api.Errno) func(int, error) {
	return func(n int, err error) {
		t.Helper()
		fails(t, err, call, name, reason)
		if n != 0 {
			t.Fatalf("the count %d beside an error", n)
		}
	}
}

// refusesMirror asks Mirror for a fault, and for no count beside it.
func refusesMirror(t *testing.T, v *valise.Valise, name string, reason api.Errno, want ...api.Want) {
	t.Helper()
	done, err := mirror.Mirror(v, want...)
	fails(t, err, "mirror", name, reason)
	if done != (api.Done{}) {
		t.Fatalf("%v beside an error", done)
	}
}

// names asks for the names of an archive.
func names(t *testing.T, v *valise.Valise, want ...string) {
	t.Helper()
	if got := slices.Collect(v.Names()); !slices.Equal(got, want) {
		t.Fatalf("the names %q, want %q", got, want)
	}
}

// entries tells all of an archive: each entry's Info and its plain text.
func entries(t *testing.T, v *valise.Valise) map[api.Info]string {
	t.Helper()
	infos, err := v.List()
	goes(t, err)
	all := map[api.Info]string{}
	for _, x := range infos {
		data, err := v.Read(x.Name)
		all[x] = fmt.Sprintf("%s, %v", data, err)
	}
	return all
}

// holding is an archive of stored entries of these names, each of which has its name as data.
func holding(t *testing.T, names ...string) string {
	t.Helper()
	var items []api.Item
	for _, name := range names {
		items = append(items, item(name, name))
	}
	return laid(t, items...)
}

// item is a stored entry of the mode 420, of 1980-01-01 0:00:00.
func item(name, data string) api.Item {
	l := api.Local{Need: 10, Date: 33, Sum: field.Sum([]byte(data)), Packed: len(data), Size: len(data), Name: name}
	return api.Item{Central: api.Central{Local: l, Made: 788, External: 420 << 16}, Bytes: []byte(data)}
}

// laid is an archive of these entries.
func laid(t *testing.T, items ...api.Item) string {
	t.Helper()
	file, e := layout.Render(items, "")
	if e != api.OK {
		t.Fatalf("Render: %d", e)
	}
	return string(file)
}

// still asks that nothing was done to a file.
func still(t *testing.T, d *disk.Disk, image string, calls int) {
	t.Helper()
	if string(d.Image()) != image || d.Calls() != calls {
		t.Fatalf("the file was changed: %d bytes, %d calls, want %d, %d", d.Size(), d.Calls(), len(image), calls)
	}
}

// forged is another text of five bytes or more with the same sum.
func forged(data string) string {
	out := []byte(data)
	for i, b := range []byte{0x41, 0x06, 0x71, 0xdb, 0x01} { // what the sum is the rest by
		out[i] ^= b
	}
	return string(out)
}

func many(s string, n int) string { return strings.Repeat(s, n) }
