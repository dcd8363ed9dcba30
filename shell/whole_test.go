package shell_test

import (
	"archive/zip"
	"bytes"
	"fmt"
	"hash/crc32"
	"io"
	"maps"
	"math/rand"
	"slices"
	"strings"
	"testing"

	"valise/deflate"
	"valise/shell"
)

// thing is an entry as the map has it.
type thing struct {
	text, note           string
	method, packed, mode int
}

// world is what an archive holds.
type world struct {
	things map[string]thing
	note   string
}

// tight is how long the file is without gaps, by P0.15.
func (w world) tight() int {
	n := 22 + len(w.note)
	for name, x := range w.things {
		n += 30 + 46 + 2*len(name) + len(x.note) + x.packed
	}
	return n
}

// weight is what an entry counts for in P0.11.
func weight(name string, x thing) int {
	return len(x.text) + 5*max(1, (len(x.text)+65534)/65535) + 2*len(name) + len(x.note) + 80
}

// tells is what the lines of telling answer.
func (w world) tells() string {
	list, names, reads := "", "", ""
	for _, name := range slices.Sorted(maps.Keys(w.things)) {
		x := w.things[name]
		list += fmt.Sprintf("%s %d %d %d %08x 2026-11-18T09:24:30 %d %s\n", asQuoted(name), x.method, len(x.text), x.packed, crc32.ChecksumIEEE([]byte(x.text)), x.mode, asQuoted(x.note))
		names += asQuoted(name) + "\n"
		reads += "ok " + asQuoted(x.text) + "\n"
	}
	return list + fmt.Sprintf("ok %d\n", len(w.things)) + names + "ok\n" + reads + "ok " + asQuoted(w.note) + "\nok 0\n"
}

// telling is the lines that tell all of it.
func (w world) telling() string {
	reads := ""
	for _, name := range slices.Sorted(maps.Keys(w.things)) {
		reads += "read " + asQuoted(name) + "\n"
	}
	return "list\nnames 999\n" + reads + "note\nverify\n"
}

// deed is a change: its lines, and what it makes of the map, or why it is refused.
type deed struct {
	kind, script string
	noted        int // so many of its lines answer ok alone
	weight       int // what it counts for in P0.11
	next         world
	e            int
}

// wholeNames are names of which most may be.
var wholeNames = []string{"a", "b", "c", "d", "dir/", "dir/a", "\u00e9", "long " + strings.Repeat("n", 70), "a", "b", "c", "d", "dir/a", "../a", "/", ""}

// step draws a change by one line, and makes it of the map.
func (d *deed) step(from *rand.Rand) {
	w := world{things: maps.Clone(d.next.things), note: d.next.note}
	name, to := pick(from, wholeNames...), pick(from, wholeNames...)
	bad := func(name string) bool { return slices.Contains([]string{"../a", "/", ""}, name) }
	old, there := w.things[name]
	switch from.Intn(9) {
	default:
		x := thing{text: drawnText(from), note: strings.Repeat("\u00f1", from.Intn(3)), method: pick(from, 0, 8), mode: from.Intn(65536)}
		x.packed = len(x.text)
		level := from.Intn(10)
		if x.method == 8 {
			packed, _ := deflate.Deflate([]byte(x.text), level)
			x.packed = len(packed)
		}
		d.kind, d.script = "add", d.script+fmt.Sprintf("add %s %s %d %d 2026 11 18 9 24 %d %d %s\n", asQuoted(name), asQuoted(x.text), x.method, level, 30+from.Intn(2), x.mode, asQuoted(x.note))
		d.weight += weight(name, x)
		w.things[name] = x
		if bad(name) {
			d.refuse(120)
		}
	case 0, 1:
		d.kind, d.script = "delete", d.script+"delete "+asQuoted(name)+"\n"
		delete(w.things, name)
		if !there {
			d.refuse(150)
		}
	case 2:
		d.kind, d.script = "rename", d.script+"rename "+asQuoted(name)+" "+asQuoted(to)+"\n"
		d.weight += weight(to, old)
		_, taken := w.things[to]
		delete(w.things, name)
		w.things[to] = old
		switch {
		case bad(to):
			d.refuse(120)
		case !there:
			d.refuse(150)
		case taken:
			d.refuse(151)
		}
	}
	if d.e == 0 {
		d.next = w
	}
}

// refuse notes why a change is refused; the first reason counts.
func (d *deed) refuse(e int) {
	if d.e == 0 {
		d.e = e
	}
}

// drawnText draws a text.
func drawnText(from *rand.Rand) string {
	b := bytes.Repeat([]byte{byte(from.Intn(256))}, from.Intn(2+from.Intn(5)*70))
	for range from.Intn(3) * from.Intn(60) {
		b = append(b, byte(from.Intn(256)))
	}
	return string(b)
}

// drawnDeed draws a change of a map.
func drawnDeed(from *rand.Rand, w world) deed {
	d := deed{next: w, weight: len(w.note)}
	for name, x := range w.things {
		d.weight += weight(name, x)
	}
	switch from.Intn(12) {
	case 0:
		d.kind, d.script = "compact", "compact\n"
	case 1:
		d.next.note = strings.Repeat("n", from.Intn(10))
		d.kind, d.script = "setnote", "setnote "+asQuoted(d.next.note)+"\n"
		d.weight += len(d.next.note)
	case 2, 3:
		d.script = "begin\n"
		d.noted = 1 + from.Intn(5)
		for range d.noted - 1 {
			d.step(from)
		}
		d.kind, d.script = "commit", d.script+"commit\n"
		if d.e != 0 {
			d.next = w
		}
	default:
		d.step(from)
	}
	return d
}

// answer is what a change answers, if it leaves a file of that size.
func (d deed) answer(size int) string {
	if d.e != 0 {
		return strings.Repeat("ok\n", d.noted) + fmt.Sprintf("error %d\n", d.e)
	}
	return strings.Repeat("ok\n", d.noted) + fmt.Sprintf("ok %d\n", size)
}

// readByOthers holds a file to P0.13, by the word of Go's own library.
func readByOthers(t *testing.T, image []byte, w world) {
	t.Helper()
	z, err := zip.NewReader(bytes.NewReader(image), int64(len(image)))
	if err != nil || len(z.File) != len(w.things) || z.Comment != w.note {
		t.Fatalf("another program reads: %v", err)
	}
	for _, f := range z.File {
		x := w.things[f.Name]
		if strings.HasSuffix(f.Name, "/") && x.text != "" { // that program reads no folder with bytes
			continue
		}
		r, err := f.Open()
		if err != nil {
			t.Fatalf("another program opens %q: %v", f.Name, err)
		}
		b, err := io.ReadAll(r)
		if err != nil || string(b) != x.text || f.Comment != x.note || int(f.CompressedSize64) != x.packed {
			t.Fatalf("another program reads %q: %v, %d bytes", f.Name, err, len(b))
		}
	}
}

// calls plays a script and tells how many changing calls the disk has had then.
func calls(image []byte, capacity int, script string) int {
	got, _ := shell.Run(image, capacity, script+"disk")
	var size, n, life int
	fmt.Sscanf(got[strings.LastIndex(got[:len(got)-1], "\n")+1:], "ok %d %d %d", &size, &n, &life)
	return n
}

// TestWholeMap plays long scripts over one open archive against the map.
func TestWholeMap(t *testing.T) { // P0.10, P0.13, P0.15
	from := rand.New(rand.NewSource(2010))
	count := map[string]int{}
	for range 40 {
		script, before := "open\n", "ok 0 0\n"
		w, made := world{}, false
		w.things = map[string]thing{}
		for range 25 {
			d := drawnDeed(from, w)
			got, image := shell.Run(nil, 1<<20, script+d.script)
			if got != before+d.answer(len(image)) {
				t.Fatalf("%q answers %q, want %q", d.script, got[min(len(before), len(got)):], d.answer(len(image)))
			}
			was := calls(nil, 1<<20, script)
			script, before, w = script+d.script, got, d.next
			now := calls(nil, 1<<20, script)
			if got, _ := shell.Run(nil, 1<<20, script+w.telling()); got != before+w.tells() {
				t.Fatalf("behind %q:\n got %q\nwant %q", d.script, got[len(before):], w.tells())
			}
			if calls(nil, 1<<20, script+w.telling()+"scan\n") != now {
				t.Errorf("telling makes changing calls")
			}
			if d.e != 0 && now != was || d.kind != "commit" && now-was > 13 {
				t.Errorf("%q makes %d changing calls", d.script, now-was)
			}
			made = made || d.e == 0 && (d.kind != "commit" || d.noted > 1)
			if made {
				readByOthers(t, image, w)
			} else if len(image) > 0 {
				t.Errorf("nothing was made, and there are %d bytes", len(image))
			}
			if len(image) > 2*w.tight() || d.kind == "compact" && (len(image) != w.tight() || calls(nil, 1<<20, script+"compact\n") != now) {
				t.Errorf("%d bytes behind %q, tight %d", len(image), d.script, w.tight())
			}
			count[fmt.Sprint(d.kind, d.e)]++
		}
	}
	for _, what := range []string{"add0", "add120", "delete0", "delete150", "rename0", "rename120", "rename150", "rename151", "setnote0", "compact0", "commit0", "commit120", "commit150"} {
		if count[what] < 3 {
			t.Errorf("%s: %d times", what, count[what])
		}
	}
}

// TestWholeRoom plays each change on a disk that has just the room that P0.11 asks for.
func TestWholeRoom(t *testing.T) { // P0.11
	from := rand.New(rand.NewSource(2011))
	for range 60 {
		w, image := world{things: map[string]thing{}}, []byte(nil)
		for range 40 {
			d := drawnDeed(from, w)
			if d.e != 0 {
				continue
			}
			capacity := 4096 + 3*d.weight
			if d.kind == "commit" {
				capacity = 4096 + 4*d.weight
			}
			got, next := shell.Run(image, capacity, "open\n"+d.script)
			if want := fmt.Sprintf("ok 0 %d\n", len(image)) + d.answer(len(next)); got != want {
				t.Fatalf("%q over %d bytes, capacity %d: %q, want %q", d.script, len(image), capacity, got, want)
			}
			w, image = d.next, next
		}
	}
}

// drawnCrash draws a crash command.
func drawnCrash(from *rand.Rand) string {
	line := fmt.Sprintf("crash %d %d", from.Intn(3), from.Intn(4))
	for range from.Intn(10) {
		line += fmt.Sprint(" ", from.Intn(4))
	}
	return line + "\n"
}

// TestWholeCrashes lets the power fail in changes, and in the Opens behind them.
func TestWholeCrashes(t *testing.T) { // P0.12
	from := rand.New(rand.NewSource(2012))
	w, image := world{things: map[string]thing{}}, []byte(nil)
	kept := map[string]int{}
	for range 2500 {
		d := drawnDeed(from, w)
		script := fmt.Sprintf("open\nfuse %d\n", from.Intn(20)) + d.script
		got, _ := shell.Run(image, 1<<16, script)
		script += drawnCrash(from)
		for range from.Intn(4) {
			script += fmt.Sprintf("fuse %d\nopen\n", from.Intn(5)) + drawnCrash(from)
		}
		script += "open\n"
		_, found := shell.Run(image, 1<<16, script)
		asOld, _ := shell.Run(found, 1<<16, "open\n"+w.telling())
		asNew, _ := shell.Run(found, 1<<16, "open\n"+d.next.telling())
		isOld := asOld == fmt.Sprintf("ok 0 %d\n", len(found))+w.tells()
		isNew := asNew == fmt.Sprintf("ok 0 %d\n", len(found))+d.next.tells()
		failed := strings.HasSuffix(got, "error 12\n")
		switch {
		case !failed && d.e == 0 && isNew:
			kept["made"]++
		case !failed && d.e != 0 && isOld:
			kept["refused"]++
		case failed && isNew && !isOld:
			kept["new"]++
		case failed && isOld:
			kept["old"]++
			d.next = w
		default:
			t.Fatalf("%q over %d bytes: %q, then %q", script, len(image), got, asOld)
		}
		w, image = d.next, found
	}
	if kept["made"] < 400 || kept["refused"] < 200 || kept["new"] < 50 || kept["old"] < 500 {
		t.Errorf("%v", kept)
	}
}

// TestWholeAnyFile opens files that are no archives, or no longer.
func TestWholeAnyFile(t *testing.T) { // P0.14
	from := rand.New(rand.NewSource(2014))
	archive := plays(t, `open / add a hello 0 / add b aaaa / delete a`, `ok 0 0 / ok 105 / ok 187 / ok 140`)
	answers := map[string]int{}
	for range 6000 {
		image := slices.Clone(archive)
		if from.Intn(2) == 0 { // a journal behind it
			got, cut := shell.Run(archive, room, fmt.Sprintf("open\nfuse %d\n", from.Intn(12))+"rename b c\n"+drawnCrash(from))
			if !strings.Contains(got, "error 12") {
				t.Fatal(got)
			}
			image = cut
		}
		for range from.Intn(3) {
			image[from.Intn(len(image))] = byte(from.Intn(256))
		}
		switch from.Intn(6) {
		case 0:
			image = image[:from.Intn(len(image)+1)]
		case 1:
			image = append(image, make([]byte, from.Intn(3000))...)
		}
		got, found := shell.Run(image, room, "open\ndisk")
		state := strings.Join(strings.Fields(got)[:2], " ")
		answers[state]++
		if strings.HasPrefix(state, "error") || state == "ok 0" {
			if !bytes.Equal(found, image) || !strings.HasSuffix(got, fmt.Sprintf("\nok %d 0 1\n", len(image))) {
				t.Fatalf("%q of %d bytes, then %d", got, len(image), len(found))
			}
			continue
		}
		if again, _ := shell.Run(found, room, "open\ndisk"); again != fmt.Sprintf("ok 0 %d\nok %d 0 1\n", len(found), len(found)) {
			t.Fatalf("%q, then %q", got, again)
		}
	}
	for _, state := range []string{"ok 0", "ok 1", "ok 2", "ok 3", "ok 4", "error 130", "error 131", "error 132", "error 136", "error 161"} {
		if answers[state] < 5 {
			t.Errorf("%s: %d times", state, answers[state])
		}
	}
}
