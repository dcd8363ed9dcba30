package mirror_test

import (
	"errors"
	"fmt"
	"math/rand"
	"slices"
	"testing"

	"valise/api"
	"valise/disk"
	"valise/mirror"
	"valise/record"
	"valise/valise"
)

// plainMirror is P25.5, of an archive that answers.
func plainMirror(t *testing.T, v *valise.Valise, want []api.Want) (api.Done, error) {
	t.Helper()
	infos, err := v.List()
	goes(t, err)
	list, done := plainSteps(infos, want, func(w api.Want) bool {
		data, err := v.Read(w.Name)
		return err == nil && string(data) == string(w.Data)
	})
	if err := v.Batch(list...); err != nil {
		return api.Done{}, err
	}
	return done, nil
}

// plainMove is P25.6, of an archive that answers. Its own faults are told as the Batch's are.
func plainMove(v *valise.Valise, from, to string) (int, error) {
	f, to2 := plainF(from), plainF(to)
	if record.CheckName(f) != api.OK || record.CheckName(to2) != api.OK {
		return 0, &api.Fault{Name: from, Reason: api.ErrName}
	}
	var list []api.Step
	for name := range v.Names() {
		if name == f+"/" || plainIn(name, f) {
			list = append(list, api.Step{Kind: api.StepRename, Name: name, To: to2 + name[len(f):]})
		}
	}
	if len(list) == 0 {
		return 0, &api.Fault{Name: from, Reason: api.ErrAbsent}
	}
	if to2 == f || plainIn(to2, f) {
		return 0, &api.Fault{Name: from, Reason: api.ErrTaken}
	}
	if err := v.Batch(list...); err != nil {
		return 0, err
	}
	return len(list), nil
}

// plainPrune is P25.7, of an archive that answers.
func plainPrune(v *valise.Valise, pattern string) (int, error) {
	if _, e := plainMatch(pattern, ""); e != api.OK {
		return 0, &api.Fault{Name: pattern, Reason: e}
	}
	var list []api.Step
	for name := range v.Names() {
		if yes, _ := plainMatch(pattern, name); yes {
			list = append(list, api.Step{Kind: api.StepDelete, Name: name})
		}
	}
	if err := v.Batch(list...); err != nil {
		return 0, err
	}
	return len(list), nil
}

// told is an error as the call tells it, and its number.
func told(call string, err error) (string, api.Errno) {
	var f *api.Fault
	if !errors.As(err, &f) {
		return fmt.Sprint(err), api.OK
	}
	return (&api.Fault{Call: call, Name: f.Name, Reason: f.Reason}).Error(), f.Reason
}

func drawName(from *rand.Rand) string {
	names := []string{"a", "b", "d/", "d/a", "d/b", "d/e/", "d/e/a", "d/e/d/a", "d/d/a", "d/d/e/a", "e/a", "e/é", "é"}
	return names[from.Intn(len(names))]
}

// drawItem draws an entry, at times of another program, and at times damaged.
func drawItem(from *rand.Rand) api.Item {
	x := item(drawName(from), many("some data", from.Intn(3)))
	x.Made = []int{788, 3 << 8, 20, 788}[from.Intn(4)]
	if from.Intn(4) == 0 {
		x.Date, x.Clock = from.Intn(65536), from.Intn(65536)
	}
	if from.Intn(4) == 0 {
		x.Comment = "a note"
	}
	if from.Intn(8) == 0 {
		x.Sum++
	} else if from.Intn(8) == 0 && len(x.Bytes) > 0 {
		x.Bytes = []byte(forged(string(x.Bytes)))
	}
	return x
}

// drawArchive draws an archive's file.
func drawArchive(t *testing.T, from *rand.Rand) string {
	t.Helper()
	var items []api.Item
	for range from.Intn(7) {
		x := drawItem(from)
		if !slices.ContainsFunc(items, func(y api.Item) bool { return x.Name == y.Name }) {
			items = append(items, x)
		}
	}
	return laid(t, items...)
}

// drawWants draws wants, many of which are like what is there.
func drawWants(from *rand.Rand, infos []api.Info) []api.Want {
	var want []api.Want
	for _, x := range infos {
		if from.Intn(4) == 0 {
			continue
		}
		w := api.Want{Name: x.Name, Data: []byte(many("some data", x.Size/9)), How: api.How{Method: x.Method, Level: from.Intn(10), Stamp: x.Stamp, Mode: x.Mode, Note: x.Note}}
		w.How.Stamp.Second += from.Intn(2)
		switch from.Intn(12) {
		case 0:
			w.Data = []byte("other")
		case 1:
			w.How.Note += "!"
		case 2:
			w.How.Stamp = firstDay
		case 3:
			w.How.Level = -1
		}
		want = append(want, w)
	}
	for range from.Intn(4) {
		w := wanted(drawName(from), many("some data", from.Intn(3)))
		switch from.Intn(30) {
		case 0:
			w.Name = "../a"
		case 1:
			w.How.Level = 10
		case 2:
			w.How.Stamp.Month = 0
		case 3:
			w.Data = make([]byte, 1<<14)
		}
		want = append(want, w)
	}
	from.Shuffle(len(want), func(i, j int) { want[i], want[j] = want[j], want[i] })
	return want
}

// twins are two open archives over the same file.
func twins(t *testing.T, from *rand.Rand) (file string, d, e *disk.Disk, v, w *valise.Valise) {
	t.Helper()
	file = drawArchive(t, from)
	capacity := 1 << 13
	if from.Intn(8) == 0 {
		capacity = len(file) + from.Intn(3000)
	}
	d, v = over(t, file, capacity)
	e, w = over(t, file, capacity)
	return file, d, e, v, w
}

// equal asks that both files are the same, and as they were, if the call has refused.
func equal(t *testing.T, file string, d, e *disk.Disk, reason api.Errno) {
	t.Helper()
	if string(d.Image()) != string(e.Image()) || d.Calls() != e.Calls() {
		t.Fatalf("another file: %d bytes, %d calls, want %d, %d", d.Size(), d.Calls(), e.Size(), e.Calls())
	}
	if reason != api.OK {
		still(t, d, file, 0)
	}
}

func TestModelMirror(t *testing.T) { // P25.5: the same file, call by call, as the chapter's words make
	from := rand.New(rand.NewSource(2507))
	met := map[api.Errno]int{}
	var all api.Done
	for range 12000 {
		file, d, e, v, w := twins(t, from)
		infos, err := v.List()
		goes(t, err)
		want := drawWants(from, infos)
		done, err := plainMirror(t, w, want)
		said, reason := told("mirror", err)
		met[reason]++
		got, err := mirror.Mirror(v, want...)
		if fmt.Sprint(err) != said || got != done {
			t.Fatalf("Mirror(%v) = %v, %v, want %v, %s", want, got, err, done, said)
		}
		equal(t, file, d, e, reason)
		all.Added, all.Replaced, all.Deleted, all.Kept = all.Added+done.Added, all.Replaced+done.Replaced, all.Deleted+done.Deleted, all.Kept+done.Kept
		if reason != api.OK || from.Intn(4) > 0 {
			continue
		}
		calls := d.Calls()
		again, err := mirror.Mirror(v, want...)
		if again.Kept != done.Added+done.Replaced+done.Kept || again != (api.Done{Kept: again.Kept}) || err != nil || d.Calls() != calls {
			t.Fatalf("Mirror(%v) once more: %v, %v, %d calls", want, again, err, d.Calls()-calls)
		}
	}
	for _, e := range []api.Errno{api.OK, api.ErrArg, api.ErrName, api.ErrStamp, api.ErrFull} {
		if met[e] < 50 {
			t.Errorf("the error %d was met %d times", e, met[e])
		}
	}
	if min(all.Added, all.Replaced, all.Deleted, all.Kept) < 4000 {
		t.Errorf("%v", all)
	}
}

func TestModelMove(t *testing.T) { // P25.6
	from := rand.New(rand.NewSource(2508))
	met := map[api.Errno]int{}
	folders := []string{"d", "d/", "d/e", "d/d", "d/d/", "d/e/d", "e", "e/", "n", "n/o", "é", "a", "a/", "", "/", "../d", "d//", "d/e/a/b"}
	for range 20000 {
		file, d, e, v, w := twins(t, from)
		f, to := folders[from.Intn(len(folders))], folders[from.Intn(len(folders))]
		want, err := plainMove(w, f, to)
		said, reason := told("move", err)
		met[reason]++
		n, err := mirror.Move(v, f, to)
		if n != want || fmt.Sprint(err) != said {
			t.Fatalf("Move(%q, %q) of %q = %d, %v, want %d, %s", f, to, slices.Collect(v.Names()), n, err, want, said)
		}
		equal(t, file, d, e, reason)
	}
	for _, e := range []api.Errno{api.OK, api.ErrName, api.ErrAbsent, api.ErrTaken, api.ErrFull} {
		if met[e] < 50 {
			t.Errorf("the error %d was met %d times", e, met[e])
		}
	}
}

func TestModelPrune(t *testing.T) { // P25.7
	from := rand.New(rand.NewSource(2509))
	met := map[api.Errno]int{}
	pieces := []string{"*", "**", "d", "/", "?", "[a-c]", "[!a]", "a", "é", "e/", "d/"}
	for range 20000 {
		file, d, e, v, w := twins(t, from)
		pattern := ""
		for range from.Intn(5) {
			pattern += pieces[from.Intn(len(pieces))]
		}
		if from.Intn(20) == 0 {
			pattern += []string{"[", "\\", "[]", "[b-a]"}[from.Intn(4)]
		}
		want, err := plainPrune(w, pattern)
		said, reason := told("prune", err)
		met[reason]++
		n, err := mirror.Prune(v, pattern)
		if n != want || fmt.Sprint(err) != said {
			t.Fatalf("Prune(%q) of %q = %d, %v, want %d, %s", pattern, slices.Collect(v.Names()), n, err, want, said)
		}
		equal(t, file, d, e, reason)
		if reason == api.OK && n == 0 {
			still(t, d, file, 0)
		}
	}
	for _, e := range []api.Errno{api.OK, api.ErrPattern, api.ErrFull} {
		if met[e] < 50 {
			t.Errorf("the error %d was met %d times", e, met[e])
		}
	}
}
