package valise_test

import (
	"fmt"
	"math/rand"
	"strings"
	"testing"

	"valise/api"
	"valise/deflate"
	"valise/disk"
	"valise/field"
	"valise/journal"
	"valise/layout"
	"valise/plan"
	"valise/record"
)

// What stands here is the chapter word for word, over a disk of its own and by the layers below, with no thought of cost.

// plainValise is a valise: its disk, and how many updates it has carried out.
type plainValise struct {
	disk    *disk.Disk
	options api.Options
	count   int
}

// plainPlan is P17.9 and P17.10: the plan of a call, over a content, on a disk of that capacity.
func plainPlan(x *ask, content []byte, o api.Options, capacity int) (api.Plan, api.Errno) {
	a, _ := layout.Parse(content)
	switch x.kind {
	case "note":
		return plan.Note(content, a, x.note, capacity)
	case "compact":
		return plan.Compact(content, a, capacity)
	}
	s := x.steps[0]
	switch s.Kind {
	case api.StepDelete:
		return plan.Delete(content, a, s.Name, capacity)
	case api.StepRename:
		return plan.Rename(content, a, s.Name, s.To, capacity)
	case api.StepAdd:
	default:
		return api.Plan{}, api.ErrArg
	}
	h := s.How
	if h.Method != 0 && h.Method != 8 || h.Level < 0 || h.Level > 9 || h.Mode < 0 || h.Mode > 65535 || len(h.Note) > 65535 {
		return api.Plan{}, api.ErrArg
	}
	date, clock, e := record.PackStamp(h.Stamp)
	if e != api.OK {
		return api.Plan{}, api.ErrStamp
	}
	if record.CheckName(s.Name) != api.OK {
		return api.Plan{}, api.ErrName
	}
	there := false
	for _, x := range a.Entries {
		there = there || x.Name == s.Name
	}
	if !there && len(a.Entries) >= 65535 || !there && o.MaxEntries != 0 && len(a.Entries) >= o.MaxEntries {
		return api.Plan{}, api.ErrMany
	}
	if o.MaxData != 0 && len(s.Data) > o.MaxData || len(s.Data) > 16777216 {
		return api.Plan{}, api.ErrBig
	}
	c := api.Central{Made: 788, External: 65536 * h.Mode, Comment: h.Note}
	c.Local = api.Local{Need: 10, Method: h.Method, Clock: clock, Date: date, Sum: field.Sum(s.Data), Size: len(s.Data), Name: s.Name}
	bytes := s.Data
	if h.Method == 8 {
		c.Need = 20
		bytes, _ = deflate.Deflate(s.Data, h.Level)
	}
	for _, b := range []byte(s.Name + h.Note) {
		if b >= 128 {
			c.Flags = 2048
		}
	}
	c.Packed = len(bytes)
	return plan.Add(content, a, c, bytes, capacity)
}

// update carries a plan out, as store.Apply does.
func (v *plainValise) update(p api.Plan) api.Errno {
	content := v.disk.Image()
	next, e := journal.Apply(content, p.Size, p.Writes)
	if e != api.OK {
		return e
	}
	if string(next) == string(content) {
		return api.OK
	}
	v.count++
	return journal.Update(v.disk, v.count, p.Size, p.Writes)
}

// make is a call that changes: the name in its fault, and its reason.
func (v *plainValise) make(x *ask) (string, api.Errno) {
	if !v.disk.Alive() {
		return x.name(), api.ErrDiskPower
	}
	if x.kind != "batch" {
		p, e := plainPlan(x, v.disk.Image(), v.options, v.disk.Capacity())
		if e != api.OK {
			return x.name(), e
		}
		return x.name(), v.update(p)
	}
	first := v.disk.Image()
	last := first
	for _, s := range x.steps {
		p, e := plainPlan(&ask{kind: "step", steps: []api.Step{s}}, last, v.options, 16777216)
		if e != api.OK {
			return s.Name, e
		}
		last, _ = journal.Apply(last, p.Size, p.Writes)
	}
	if string(last) == string(first) {
		return "", api.OK
	}
	writes := plan.Diff(first, last)
	if n, _ := journal.Need(len(first), len(last), writes); n > v.disk.Capacity() {
		return "", api.ErrFull
	}
	return "", v.update(api.Plan{Size: len(last), Writes: writes})
}

// drawnNote draws a note, short or long, some of which an archive may not have.
func drawnNote(from *rand.Rand) string {
	switch from.Intn(6) {
	case 0:
		return ending
	case 1:
		return zeros(1020 + from.Intn(8))
	case 2:
		return sealed(1400+from.Intn(300), 1200)
	case 3:
		return strings.Repeat("n", 65530+from.Intn(10))
	}
	return strings.Repeat("n", from.Intn(30))
}

// TestPlain plays calls, fuses and crashes over two disks: by the valise, and by the chapter's words.
func TestPlain(t *testing.T) { // P17.9 to P17.13
	from := rand.New(rand.NewSource(17))
	count := map[string]int{}
	for range 250 {
		o := api.Options{}
		if from.Intn(4) == 0 {
			o = api.Options{MaxEntries: from.Intn(5), MaxData: from.Intn(300)}
		}
		image := []string{"", gapped(t)}[from.Intn(2)]
		capacity := len(image) + from.Intn(5000)
		if from.Intn(4) == 0 {
			capacity += 1 << 18
		}
		d, twin := holds(t, image, capacity), holds(t, image, capacity)
		v, plain := limited(t, d, o), &plainValise{disk: twin, options: o}
		for range 40 {
			if from.Intn(20) == 0 {
				n := from.Intn(30) - 3
				d.Fuse(n)
				twin.Fuse(n)
			}
			x := drawn(from)
			if x.kind == "note" {
				x.note = drawnNote(from)
			}
			err := x.run(v)
			name, reason := plain.make(x)
			count[fmt.Sprint(x.call(), " ", int(reason))]++
			if reason == api.OK {
				goes(t, err)
			} else {
				fails(t, err, x.call(), name, reason)
			}
			if string(d.Image()) != string(twin.Image()) || d.Calls() != twin.Calls() || d.Alive() != twin.Alive() {
				t.Fatalf("behind %s: %d bytes by %d calls, want %d by %d", x.call(), d.Size(), d.Calls(), twin.Size(), twin.Calls())
			}
			if !d.Alive() {
				silent(t, v, api.ErrDiskPower)
				c := crashed(from)
				d, _ = d.Crash(c)
				twin, _ = twin.Crash(c)
				verdict, e := journal.Recover(twin)
				v, plain = limited(t, d, o), &plainValise{disk: twin, options: o}
				if e != api.OK || v.Found() != verdict {
					t.Fatalf("Found %v, want %v, %d", v.Found(), verdict, e)
				}
			}
		}
	}
	for _, what := range []string{"add 0", "add 12", "add 152", "add 153", "add 154", "delete 0", "delete 12", "delete 154", "rename 0", "rename 12", "rename 154", "setnote 0", "setnote 1", "setnote 12", "setnote 154", "setnote 160", "compact 0", "compact 12", "compact 154", "batch 0", "batch 12", "batch 154"} {
		if count[what] < 2 {
			t.Errorf("%s: drawn %d times", what, count[what])
		}
	}
}
