package tape_test

import (
	"errors"
	"fmt"
	"math/rand"
	"strings"
	"testing"

	"valise/api"
	"valise/tape"
	"valise/valise"
)

// What stands here is the chapter word for word, with no thought of cost.

// plainExport is P24.6, of an archive that answers.
func plainExport(t *testing.T, v *valise.Valise) (string, error) {
	t.Helper()
	infos, err := v.List()
	goes(t, err)
	var files []api.File
	for _, x := range infos {
		data, err := v.Read(x.Name)
		if err != nil {
			return "", err
		}
		f := api.File{Name: x.Name, Mode: x.Mode, Time: plainSeconds(x.Stamp), Data: data}
		if strings.HasSuffix(x.Name, "/") {
			f.Kind = 5
		}
		if !plainSound(f) {
			return "", &api.Fault{Call: "export", Name: x.Name, Reason: api.ErrTapeField}
		}
		files = append(files, f)
	}
	out, e := plainPut(files)
	if e != api.OK {
		return "", &api.Fault{Call: "export", Reason: e}
	}
	return out, nil
}

// plainImport is P24.7.
func plainImport(v *valise.Valise, data string, how api.How) (int, error) {
	files, e := plainGet(data)
	if e != api.OK {
		return 0, &api.Fault{Call: "import", Reason: e}
	}
	for _, f := range files {
		if f.Kind == 2 {
			return 0, &api.Fault{Call: "import", Name: f.Name, Reason: api.ErrTapeField}
		}
	}
	var steps []api.Step
	for _, f := range files {
		h := how
		h.Mode, h.Stamp = f.Mode, plainStamp(f.Time)
		for h.Mode > 65535 {
			h.Mode -= 65536
		}
		steps = append(steps, api.Step{Kind: api.StepAdd, Name: f.Name, Data: f.Data, How: h})
	}
	if err := v.Batch(steps...); err != nil {
		return 0, err
	}
	return len(files), nil
}

// reasonOf is an error's number, and what the error says.
func reasonOf(err error) (api.Errno, string) {
	var f *api.Fault
	if !errors.As(err, &f) {
		return api.OK, fmt.Sprint(err)
	}
	return f.Reason, f.Error()
}

// drawEntryName draws a name that an archive may have, and that fits or nearly so.
func drawEntryName(from *rand.Rand) string {
	part := func() string {
		return strings.Repeat([]string{"a", "b", "é", "a b"}[from.Intn(4)], 1+from.Intn([]int{2, 2, 40, 104}[from.Intn(4)]))
	}
	name := part()
	for range from.Intn(3) {
		name += "/" + part()
	}
	return name
}

// drawItem draws an entry, at times of another program.
func drawItem(from *rand.Rand) api.Item {
	name, data := drawEntryName(from), drawText(from, from.Intn(600)*from.Intn(2))
	if from.Intn(4) == 0 {
		name += "/"
		if from.Intn(16) > 0 {
			data = ""
		}
	}
	x := item(name, data)
	x.Made, x.External = []int{788, 3 << 8, 20, 788}[from.Intn(4)], from.Intn(1<<32)
	if from.Intn(3) > 0 {
		x.Date, x.Clock = from.Intn(65536), from.Intn(65536)
	}
	x.Comment = drawText(from, from.Intn(2)*from.Intn(10))
	if from.Intn(25) == 0 {
		x.Sum++
	}
	return x
}

// drawArchive draws an archive's file.
func drawArchive(t *testing.T, from *rand.Rand) string {
	t.Helper()
	var items []api.Item
	there := map[string]int{}
	for range from.Intn(6) {
		x := drawItem(from)
		if there[x.Name]++; there[x.Name] == 1 {
			items = append(items, x)
		}
	}
	return laid(t, items...)
}

func TestModelExport(t *testing.T) { // P24.6
	from := rand.New(rand.NewSource(2406))
	met := map[api.Errno]int{}
	for range 20000 {
		_, v := over(t, drawArchive(t, from), 1<<16)
		want, wantErr := plainExport(t, v)
		got, err := tape.Export(v)
		e, said := reasonOf(err)
		met[e]++
		if _, wantSaid := reasonOf(wantErr); said != wantSaid || string(got) != want || err != nil && got != nil {
			t.Fatalf("Export: %q, %s, want %q, %s", some(got), said, some([]byte(want)), wantSaid)
		}
	}
	for _, e := range []api.Errno{api.OK, api.ErrDamaged, api.ErrTapeField} {
		if met[e] < 1000 {
			t.Errorf("the error %d was met %d times", e, met[e])
		}
	}
}

// drawTape draws a tape that may be imported, or nearly so.
func drawTape(t *testing.T, from *rand.Rand) string {
	t.Helper()
	var files []api.File
	for range from.Intn(6) {
		f := drawFile(from)
		if _, _, fits := plainCut(f.Name); from.Intn(12) > 0 || !fits {
			f.Name, f.Kind, f.Link = []string{"a", "b", "c", "d/e", "é", "x/y/z"}[from.Intn(6)], 0, ""
			if from.Intn(3) == 0 {
				f.Name, f.Kind, f.Data = f.Name+"/", 5, nil
			}
			if from.Intn(2) == 0 {
				f.Time = 315532798 + from.Intn(4354819200-315532798)
			}
		}
		files = append(files, f)
	}
	data := tapeWith(t, files...)
	switch from.Intn(16) {
	case 0:
		data = data[:from.Intn(len(data))]
	case 1:
		at := from.Intn(len(data))
		data = data[:at] + drawText(from, 1) + data[at+1:]
	}
	return data
}

func TestModelImport(t *testing.T) { // P24.7
	from := rand.New(rand.NewSource(2407))
	met := map[api.Errno]int{}
	for range 8000 {
		file, data, capacity := drawArchive(t, from), drawTape(t, from), 1<<14
		if from.Intn(10) == 0 {
			capacity = len(file) + from.Intn(6000)
		}
		how := api.How{Method: 8 * from.Intn(2), Level: from.Intn(10), Mode: from.Intn(100000) - 10, Note: drawText(from, from.Intn(5)), Stamp: api.Stamp{Year: from.Intn(3000)}}
		if from.Intn(20) == 0 {
			how.Method, how.Level = from.Intn(10), from.Intn(13)-1
		}
		d, v := over(t, file, capacity)
		twin, w := over(t, file, capacity)
		want, wantErr := plainImport(w, data, how)
		n, err := tape.Import(v, []byte(data), how)
		e, said := reasonOf(err)
		met[e]++
		if _, wantSaid := reasonOf(wantErr); n != want || said != wantSaid {
			t.Fatalf("Import of %q: %d, %s, want %d, %s", some([]byte(data)), n, said, want, wantSaid)
		}
		if string(d.Image()) != string(twin.Image()) || d.Calls() != twin.Calls() {
			t.Fatalf("Import of %q: another file", some([]byte(data)))
		}
		if e != api.OK && (string(d.Image()) != file || d.Calls() != 0) {
			t.Fatalf("Import of %q: %s, and yet another file", some([]byte(data)), said)
		}
	}
	for _, e := range []api.Errno{api.OK, api.ErrArg, api.ErrName, api.ErrFull, api.ErrTapeField, api.ErrTapeHead, api.ErrTapeSum, api.ErrTapeShort} {
		if met[e] < 20 {
			t.Errorf("the error %d was met %d times", e, met[e])
		}
	}
}

func TestCarriedOver(t *testing.T) { // P24.8
	from := rand.New(rand.NewSource(2408))
	count, without := 0, 0
	for range 6000 {
		_, v := over(t, drawArchive(t, from), 1<<16)
		data, err := tape.Export(v)
		if err != nil {
			continue
		}
		count++
		was, err := v.List()
		goes(t, err)
		_, w := over(t, "", 1<<16)
		how := api.How{Method: 8 * from.Intn(2), Level: from.Intn(10), Mode: from.Intn(9), Note: drawText(from, from.Intn(9))}
		imports(t, w, string(data), how, len(was))
		is, err := w.List()
		goes(t, err)
		if len(is) != len(was) {
			t.Fatalf("%d entries of %d", len(is), len(was))
		}
		for i, x := range was {
			stamp := x.Stamp
			if stamp == (api.Stamp{}) {
				stamp = firstDay
				without++
			}
			before, err := v.Read(x.Name)
			goes(t, err)
			behind, err := w.Read(x.Name)
			goes(t, err)
			if string(before) != string(behind) {
				t.Fatalf("%q became %q", some(before), some(behind))
			}
			want := api.Info{Name: x.Name, Size: x.Size, Packed: is[i].Packed, Method: how.Method, Sum: x.Sum, Stamp: stamp, Mode: x.Mode, Note: how.Note}
			if is[i] != want {
				t.Fatalf("%v became %v, want %v", x, is[i], want)
			}
		}
	}
	if count < 2000 || without < 200 {
		t.Errorf("%d archives, %d entries without a time", count, without)
	}
}
