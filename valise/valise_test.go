package valise_test

import (
	"errors"
	"maps"
	"slices"
	"strconv"
	"strings"
	"testing"

	"valise/api"
	"valise/disk"
	"valise/layout"
	"valise/valise"
)

const (
	most = api.MaxCapacity
	none = "PK\x05\x06\x00\x00\x00\x00\x00\x00\x00\x00\x00\x00\x00\x00\x00\x00\x00\x00\x00\x00" // the end record of no entries
)

var (
	epoch  = api.Stamp{Year: 1980, Month: 1, Day: 1}
	stored = api.How{Method: api.MethodStore, Stamp: epoch}
	packed = api.How{Method: api.MethodDeflate, Level: 6, Stamp: epoch}
)

// zeros is so many bytes 0.
func zeros(n int) string { return strings.Repeat("\x00", n) }

// short tells a text for a message.
func short(s string) string {
	if len(s) <= 64 {
		return strconv.Quote(s)
	}
	return strconv.Quote(s[:64]) + ".. (" + strconv.Itoa(len(s)) + " bytes)"
}

// holds makes a disk whose file holds a text.
func holds(t *testing.T, image string, capacity int) *disk.Disk {
	t.Helper()
	d, e := disk.New([]byte(image), capacity)
	if e != api.OK {
		t.Fatalf("New of %d bytes, capacity %d: %d", len(image), capacity, e)
	}
	return d
}

// opened is Open, without options, where it must go well.
func opened(t *testing.T, d *disk.Disk) *valise.Valise {
	t.Helper()
	return limited(t, d, api.Options{})
}

// limited is Open where it must go well.
func limited(t *testing.T, d *disk.Disk, o api.Options) *valise.Valise {
	t.Helper()
	v, err := valise.Open(d, o)
	if v == nil || err != nil {
		t.Fatalf("Open over %s: %v", short(string(d.Image())), err)
	}
	return v
}

// over opens an archive on a new disk.
func over(t *testing.T, image string, capacity int) (*disk.Disk, *valise.Valise) {
	t.Helper()
	d := holds(t, image, capacity)
	return d, opened(t, d)
}

// goes holds that a call went well.
func goes(t *testing.T, err error) {
	t.Helper()
	if err != nil {
		t.Fatalf("refused: %v", err)
	}
}

// fails holds that an error is the fault of that call, name and reason: by its type, and as errors.Is and errors.As find it.
func fails(t *testing.T, err error, call, name string, reason api.Errno) {
	t.Helper()
	f, ok := err.(*api.Fault)
	if !ok || f == nil || *f != (api.Fault{Call: call, Name: name, Reason: reason}) {
		t.Errorf("%v, want %s %q %d", err, call, name, reason)
		return
	}
	var found *api.Fault
	var number api.Errno
	if !errors.Is(err, reason) || errors.Is(err, reason+1) || !errors.As(err, &found) || found != f || !errors.As(err, &number) || number != reason {
		t.Errorf("%v is not found by errors.Is and errors.As", err)
	}
}

// puts adds entries (a name, its text, the next name ..) that are stored.
func puts(t *testing.T, v *valise.Valise, entries ...string) {
	t.Helper()
	for i := 0; i < len(entries); i += 2 {
		goes(t, v.Add(entries[i], []byte(entries[i+1]), stored))
	}
}

// filled is an archive of entries that are stored, as the valise makes it.
func filled(t *testing.T, note string, entries ...string) string {
	t.Helper()
	d, v := over(t, "", 1<<20)
	puts(t, v, entries...)
	goes(t, v.SetNote(note))
	return string(d.Image())
}

// gapped is an archive with gaps ahead of and between its entries.
func gapped(t *testing.T) string {
	t.Helper()
	d, v := over(t, filled(t, "note", "gone", "one", "a", "hi", "away", "two", "b", strings.Repeat("b", 700)), 1<<14)
	goes(t, v.Delete("gone"))
	goes(t, v.Delete("away"))
	if a, e := layout.Parse(d.Image()); e != api.OK || len(layout.Gaps(a)) != 2 {
		t.Fatalf("gaps %v, %d", layout.Gaps(a), e)
	}
	return string(d.Image())
}

// names is what Names gives.
func names(v *valise.Valise) []string {
	var all []string
	for name := range v.Names() {
		all = append(all, name)
	}
	return all
}

// told is all that is told of an entry, and its text; Lost, if the text is damaged.
type told struct {
	api.Info
	Text string
	Lost bool
}

// mapOf is the map that a live valise tells, by all calls that tell, and its note. None of them is a changing call.
func mapOf(t *testing.T, d *disk.Disk, v *valise.Valise) (map[string]told, string) {
	t.Helper()
	calls := d.Calls()
	list, err := v.List()
	goes(t, err)
	damaged, err := v.Verify()
	goes(t, err)
	all := map[string]told{}
	var rising, lost []string
	for _, x := range list {
		rising = append(rising, x.Name)
		y := told{Info: x}
		if i, err := v.Stat(x.Name); i != x || err != nil {
			t.Errorf("Stat(%q) = %v, %v, List %v", x.Name, i, err, x)
		}
		b, err := v.Read(x.Name)
		if err != nil {
			fails(t, err, "read", x.Name, api.ErrDamaged)
			y.Lost = true
			lost = append(lost, x.Name)
		}
		y.Text = string(b)
		all[x.Name] = y
	}
	if !slices.IsSorted(rising) || len(all) != len(list) || !slices.Equal(rising, names(v)) || !slices.Equal(lost, damaged) {
		t.Errorf("List %q, Names %q, damaged %q, Verify %q", rising, names(v), lost, damaged)
	}
	note, err := v.Note()
	goes(t, err)
	if n, err := v.Size(); n != d.Size() || err != nil {
		t.Errorf("Size = %d, %v, the file's %d", n, err, d.Size())
	}
	if d.Calls() != calls {
		t.Errorf("telling makes %d changing calls", d.Calls()-calls)
	}
	return all, note
}

// has holds that the archive has just these entries (a name, its text, the next name ..).
func has(t *testing.T, d *disk.Disk, v *valise.Valise, entries ...string) {
	t.Helper()
	got, _ := mapOf(t, d, v)
	want := map[string]string{}
	for i := 0; i < len(entries); i += 2 {
		want[entries[i]] = entries[i+1]
	}
	texts := map[string]string{}
	for name, x := range got {
		texts[name] = x.Text
	}
	if !maps.Equal(texts, want) {
		t.Errorf("%q, want %q", texts, want)
	}
}

// sized holds Size.
func sized(t *testing.T, v *valise.Valise, want int) {
	t.Helper()
	if n, err := v.Size(); n != want || err != nil {
		t.Errorf("Size = %d, %v, want %d", n, err, want)
	}
}

// still holds that what is run makes no changing call and leaves the file as it is.
func still(t *testing.T, d *disk.Disk, run func()) {
	t.Helper()
	calls, image := d.Calls(), string(d.Image())
	run()
	if d.Calls() != calls || string(d.Image()) != image {
		t.Errorf("%d changing calls, %d bytes behind %d", d.Calls()-calls, d.Size(), len(image))
	}
}

// asked is what a method answered: its word, the name that it was about, its error, and whether all else was zero.
type asked struct {
	call, name string
	err        error
	zero       bool
}

// askAll calls each method that answers an error, but Close, with right arguments and with wrong ones.
func askAll(v *valise.Valise) []asked {
	list, err := v.List()
	all := []asked{{"list", "", err, list == nil}}
	note := func(call, name string, err error, zero bool) { all = append(all, asked{call, name, err, zero}) }
	for _, name := range []string{"a", "", "/", "nowhere"} {
		info, err := v.Stat(name)
		note("stat", name, err, info == api.Info{})
		b, err := v.Read(name)
		note("read", name, err, b == nil)
		note("add", name, v.Add(name, []byte("x"), stored), true)
		note("add", name, v.Add(name, nil, api.How{Method: -1}), true)
		note("delete", name, v.Delete(name), true)
		note("rename", name, v.Rename(name, "to"), true)
		note("rename", name, v.Rename(name, "/"), true)
		note("batch", "", v.Batch(api.Step{Name: name, How: stored}), true)
		note("batch", "", v.Batch(api.Step{Kind: 9, Name: name}, api.Step{Kind: api.StepDelete, Name: name}), true)
	}
	note("batch", "", v.Batch(), true)
	text, err := v.Note()
	note("note", "", err, text == "")
	note("setnote", "", v.SetNote("n"), true)
	note("setnote", "", v.SetNote(zeros(65536)), true)
	note("compact", "", v.Compact(), true)
	names, err := v.Verify()
	note("verify", "", err, names == nil)
	n, err := v.Size()
	note("size", "", err, n == 0)
	return all
}

// silent holds that every method but Close refuses for that reason, and tells nothing.
func silent(t *testing.T, v *valise.Valise, reason api.Errno) {
	t.Helper()
	for _, x := range askAll(v) {
		fails(t, x.err, x.call, x.name, reason)
		if !x.zero {
			t.Errorf("%s %q tells something beside its error", x.call, x.name)
		}
	}
	if v.Names() == nil || len(names(v)) != 0 {
		t.Errorf("Names gives %q", names(v))
	}
}

func TestNil(t *testing.T) { // P17.2, P0.6
	var v *valise.Valise
	silent(t, v, api.ErrArg)
	fails(t, v.Close(), "close", "", api.ErrArg)
	if v.Found() != (api.Verdict{}) {
		t.Errorf("Found %v", v.Found())
	}
}

func TestClosed(t *testing.T) { // P17.2, P17.4
	for _, dead := range []bool{false, true} { // ErrClosed comes ahead of ErrDiskPower
		image := gapped(t)
		d, v := over(t, image+zeros(1024), 1<<14)
		if v.Found() != (api.Verdict{State: api.StateBlank, Size: len(image)}) {
			t.Fatalf("Found %v", v.Found())
		}
		if dead {
			d.Crash(api.Choice{})
		}
		still(t, d, func() {
			goes(t, v.Close())
			silent(t, v, api.ErrClosed)
			fails(t, v.Close(), "close", "", api.ErrClosed)
			fails(t, v.Close(), "close", "", api.ErrClosed)
		})
		if v.Found() != (api.Verdict{}) {
			t.Errorf("Found %v", v.Found())
		}
		if !dead {
			w := opened(t, d) // the disk stays as it is
			has(t, d, w, "a", "hi", "b", strings.Repeat("b", 700))
			silent(t, v, api.ErrClosed)
		}
	}
}

func TestDead(t *testing.T) { // P17.2
	for _, kill := range []func(*disk.Disk){
		func(d *disk.Disk) { d.Crash(api.Choice{}) },
		func(d *disk.Disk) { d.Fuse(0); d.Sync() },
	} {
		image := gapped(t)
		d, v := over(t, image, 1<<14)
		kill(d)
		still(t, d, func() {
			silent(t, v, api.ErrDiskPower)
			silent(t, v, api.ErrDiskPower) // and stays so
		})
		if v.Found() != (api.Verdict{Size: len(image)}) {
			t.Errorf("Found %v", v.Found())
		}
		goes(t, v.Close())
		fails(t, v.Close(), "close", "", api.ErrClosed)
	}
}

func TestZeroValise(t *testing.T) { // P0.1: a valise that no Open has made
	v := new(valise.Valise)
	v.Found()
	askAll(v)
	names(v)
	v.Close()
}

func TestOpenRefused(t *testing.T) { // P17.3
	image := gapped(t)
	right := []api.Options{{}, {MaxEntries: 65535, MaxData: 4294967295}, {MaxEntries: 1, MaxData: 1}}
	wrong := []api.Options{{MaxEntries: -1}, {MaxEntries: 65536}, {MaxData: -1}, {MaxData: 4294967296}, {MaxEntries: -1 << 63}, {MaxData: 1<<63 - 1}, {MaxEntries: 1, MaxData: -5}}
	refuses := func(d *disk.Disk, o api.Options, reason api.Errno) {
		t.Helper()
		still(t, d, func() {
			v, err := valise.Open(d, o)
			fails(t, err, "open", "", reason)
			if v != nil {
				t.Errorf("Open answers a valise beside its error")
			}
		})
	}
	dead := holds(t, image, 9000)
	dead.Crash(api.Choice{})
	for _, o := range right {
		refuses(nil, o, api.ErrArg)
		refuses(dead, o, api.ErrDiskPower)
		refuses(holds(t, "no archive", 9000), o, api.ErrLayEnd)
		refuses(holds(t, zeros(1025), 9000), o, api.ErrSpoilt)
		v := limited(t, holds(t, image, 9000), o) // also one that has more than o allows
		if !slices.Equal(names(v), []string{"a", "b"}) {
			t.Errorf("Names %q", names(v))
		}
	}
	for _, o := range wrong { // ahead of what the store would say
		for _, d := range []*disk.Disk{nil, dead, holds(t, "no archive", 9000), holds(t, image, 9000), holds(t, image+zeros(1024), 9000)} {
			refuses(d, o, api.ErrArg)
		}
	}
}

func TestOpenPower(t *testing.T) { // P17.3: the power fails in a recovery
	image := gapped(t)
	for fuse := range 2 {
		d := holds(t, image+zeros(1024), 9000)
		d.Fuse(fuse)
		v, err := valise.Open(d, api.Options{})
		fails(t, err, "open", "", api.ErrDiskPower)
		if v != nil {
			t.Errorf("Open answers a valise beside its error")
		}
	}
}

func TestFoundSize(t *testing.T) { // P17.4
	for _, x := range []struct {
		image string
		found api.Verdict
	}{{"", api.Verdict{}}, {none, api.Verdict{Size: 22}}, {zeros(1024), api.Verdict{State: 1}}, {none + zeros(2048), api.Verdict{State: 1, Size: 22}}} {
		d, v := over(t, x.image, 9000)
		sized(t, v, x.found.Size)
		puts(t, v, "a", "hello")
		sized(t, v, 105)
		goes(t, v.Delete("a"))
		sized(t, v, 22)
		if v.Found() != x.found || d.Size() != 22 { // what Open found, whatever has become of it
			t.Errorf("Found %v, want %v; %d bytes", v.Found(), x.found, d.Size())
		}
	}
}

func TestFault(t *testing.T) { // P17.1: it says its call, its name and its reason
	_, v := over(t, "", 9000)
	err := v.Delete("a b")
	if got, want := err.Error(), `delete "a b": valise: error 150`; got != want {
		t.Errorf("%s, want %s", got, want)
	}
	if errors.Unwrap(err) != api.ErrAbsent || errors.Is(err, api.ErrFull) {
		t.Errorf("it unwraps to %v", errors.Unwrap(err))
	}
}
