package shell_test

import (
	"errors"
	"fmt"
	"math/rand"
	"regexp"
	"strconv"
	"strings"
	"testing"

	"valise/api"
	"valise/disk"
	"valise/record"
	"valise/salvage"
	"valise/shell"
	"valise/valise"
)

// What may stand behind each command's word: T is a text, N a number.
var plainForms = map[string]string{
	`open`: `()|(NN)`, `close`: ``, `list`: ``, `names`: `N`, `stat`: `T`, `read`: `T`, `add`: `TT(N(N(NNNNNN(N(T)?)?)?)?)?`, `delete`: `T`, `rename`: `TT`, `compact`: ``, `begin`: ``, `commit`: ``, `drop`: ``,
	`note`: ``, `setnote`: `T`, `scan`: ``, `verify`: ``, `fuse`: `N`, `crash`: `NNN*`, `disk`: ``,
}

var plainNumber = regexp.MustCompile(`^-?[0-9]{1,10}$`)

// plainFits tells whether words are as a command wants them: each that looks like a number is tried as one and as a text.
func plainFits(word string, rest []string) bool {
	form, known := plainForms[word]
	kinds := ""
	for _, w := range rest {
		if plainNumber.MatchString(w) {
			kinds += "N"
		} else {
			kinds += "T"
		}
	}
	return known && regexp.MustCompile(`^(`+strings.ReplaceAll(form, "T", "[TN]")+`)$`).MatchString(kinds)
}

// plain is a run of a script by the chapter's words.
type plain struct {
	d     *disk.Disk
	v     *valise.Valise
	begun bool
	noted []api.Step
	out   string
}

// entry tells an entry by P20.8.
func (p *plain) entry(x api.Info) {
	s := x.Stamp
	p.out += fmt.Sprintf("%s %d %d %d %08x %04d-%02d-%02dT%02d:%02d:%02d %d %s\n", asQuoted(x.Name), x.Method, x.Size, x.Packed, x.Sum, s.Year, s.Month, s.Day, s.Hour, s.Minute, s.Second, x.Mode, asQuoted(x.Note))
}

// fails tells a fault, if there is one.
func (p *plain) fails(err error) bool {
	var f *api.Fault
	if errors.As(err, &f) {
		p.out += fmt.Sprintf("error %d\n", f.Reason)
	}
	return err != nil
}

// changed tells how a change went.
func (p *plain) changed(err error) {
	if !p.fails(err) {
		size, _ := p.v.Size()
		p.out += fmt.Sprintf("ok %d\n", size)
	}
}

// line plays a line.
func (p *plain) line(line string) {
	words, isLine := plainParse(line)
	switch {
	case strings.HasPrefix(line, "#") || isLine && len(words) == 0:
	case !isLine || !plainFits(words[0], words[1:]):
		p.out += "error 200\n"
	case p.v == nil && !strings.Contains(" open fuse crash disk scan ", " "+words[0]+" ") || (words[0] == "commit" || words[0] == "drop") && !p.begun:
		p.out += "error 201\n"
	case words[0] == "open" && p.v != nil || words[0] == "begin" && p.begun:
		p.out += "error 202\n"
	case strings.Contains(" add delete rename ", " "+words[0]+" "):
		p.step(words)
	case strings.Contains(" open close begin commit drop setnote compact ", " "+words[0]+" "):
		p.change(words)
	default:
		p.tell(words)
	}
}

// numbers are those that words say.
func numbers(words []string) []int {
	out := make([]int, len(words))
	for i, w := range words {
		out[i], _ = strconv.Atoi(w)
	}
	return out
}

// step plays add, delete or rename.
func (p *plain) step(words []string) {
	name, x := words[1], api.Step{Name: words[1]}
	switch words[0] {
	case "add":
		full := append([]string{}, words...)
		for _, usual := range []string{"add", "", "", "8", "6", "1980", "1", "1", "0", "0", "0", "0", ""}[len(words):] {
			full = append(full, usual)
		}
		n := numbers(full)
		x.Data = []byte(words[2])
		x.How = api.How{Method: n[3], Level: n[4], Stamp: api.Stamp{Year: n[5], Month: n[6], Day: n[7], Hour: n[8], Minute: n[9], Second: n[10]}, Mode: n[11], Note: full[12]}
	case "delete":
		x.Kind = api.StepDelete
	case "rename":
		x.Kind, x.To = api.StepRename, words[2]
	}
	switch {
	case p.begun:
		p.noted = append(p.noted, x)
		p.out += "ok\n"
	case x.Kind == api.StepAdd:
		p.changed(p.v.Add(name, x.Data, x.How))
	case x.Kind == api.StepDelete:
		p.changed(p.v.Delete(name))
	default:
		p.changed(p.v.Rename(name, x.To))
	}
}

// change plays what changes the archive, or whether there is one, or a batch.
func (p *plain) change(words []string) {
	switch words[0] {
	case "open":
		n := append(numbers(words[1:]), 0, 0)
		v, err := valise.Open(p.d, api.Options{MaxEntries: n[0], MaxData: n[1]})
		if !p.fails(err) {
			p.v = v
			p.out += fmt.Sprintf("ok %d %d\n", v.Found().State, v.Found().Size)
		}
	case "close":
		if !p.fails(p.v.Close()) {
			p.v, p.begun, p.noted = nil, false, nil
			p.out += "ok\n"
		}
	case "begin":
		p.begun = true
		p.out += "ok\n"
	case "commit":
		p.changed(p.v.Batch(p.noted...))
		p.begun, p.noted = false, nil
	case "drop":
		p.begun, p.noted = false, nil
		p.out += "ok\n"
	case "setnote":
		p.changed(p.v.SetNote(words[1]))
	case "compact":
		p.changed(p.v.Compact())
	}
}

// tell plays what tells, and what is done to the disk.
func (p *plain) tell(words []string) {
	switch words[0] {
	case "list":
		all, err := p.v.List()
		if !p.fails(err) {
			for _, x := range all {
				p.entry(x)
			}
			p.out += fmt.Sprintf("ok %d\n", len(all))
		}
	case "names":
		left := numbers(words)[1]
		for name := range p.v.Names() {
			if left--; left >= 0 {
				p.out += asQuoted(name) + "\n"
			}
		}
		p.out += "ok\n"
	case "stat":
		x, err := p.v.Stat(words[1])
		if !p.fails(err) {
			p.entry(x)
			p.out += "ok\n"
		}
	case "read":
		b, err := p.v.Read(words[1])
		if !p.fails(err) {
			p.out += "ok " + asQuoted(string(b)) + "\n"
		}
	case "note":
		s, err := p.v.Note()
		if !p.fails(err) {
			p.out += "ok " + asQuoted(s) + "\n"
		}
	case "verify":
		all, err := p.v.Verify()
		if !p.fails(err) {
			for _, name := range all {
				p.out += asQuoted(name) + "\n"
			}
			p.out += fmt.Sprintf("ok %d\n", len(all))
		}
	default:
		p.disk(words)
	}
}

// disk plays what wants no open archive.
func (p *plain) disk(words []string) {
	n := numbers(words)
	switch words[0] {
	case "scan":
		all, _ := salvage.Scan(p.d.Image())
		for _, x := range all {
			stamp, _ := record.UnpackStamp(x.Date, x.Clock)
			p.entry(api.Info{Name: x.Name, Size: x.Size, Packed: x.Packed, Method: x.Method, Sum: x.Sum, Stamp: stamp})
		}
		p.out += fmt.Sprintf("ok %d\n", len(all))
	case "fuse":
		p.d.Fuse(n[1])
		p.out += "ok\n"
	case "crash":
		p.d, _ = p.d.Crash(api.Choice{Size: n[1], Rest: n[2], Sectors: n[3:]})
		p.v, p.begun, p.noted = nil, false, nil
		p.out += fmt.Sprintf("ok %d\n", p.d.Size())
	case "disk":
		p.out += fmt.Sprintf("ok %d %d %d\n", p.d.Size(), p.d.Calls(), map[bool]int{true: 1}[p.d.Alive()])
	}
}

// plainRun is Run by the chapter's words.
func plainRun(image []byte, capacity int, script string) (string, []byte) {
	d, e := disk.New(image, capacity)
	if e != api.OK {
		return fmt.Sprintf("error %d\n", e), nil
	}
	p := &plain{d: d}
	for _, line := range strings.Split(script, "\n") {
		p.line(line)
	}
	return p.out, p.d.Image()
}

// pick draws one of a list.
func pick[T any](from *rand.Rand, list ...T) T { return list[from.Intn(len(list))] }

// drawnWord draws a word that is to be a name, a text or a number; few are wrong.
func drawnWord(from *rand.Rand, kind byte) string {
	if from.Intn(60) == 0 {
		return pick(from, `"`, `1x`, `""`, `-`, "\t", `a"b`, `99999999999`, `-1`, `x y`, "\"\\xff\"")
	}
	switch kind {
	case 'N':
		return pick(from, `0`, `1`, `2`, `3`, `8`, `12`, `"0"`, strconv.Itoa(from.Intn(100)))
	case 'A':
		return pick(from, `a`, `b`, `c`, `"d d"`, `dir/a`, `"\xc3\xa9"`, `"a"`, `"\x61"`)
	}
	return pick(from, `x`, `""`, `aaaa`, `"some text"`, `"\x00\xff\"\\"`, asQuoted(strings.Repeat("long ", from.Intn(50))))
}

// drawnLine draws a line of a script; most are right.
func drawnLine(from *rand.Rand) string {
	line := pick(from, `open`, `open`, `open`, `open N N`, `open 2 9`, `close`, `list`, `names N`, `stat A`, `read A`, `read A`, `delete A`, `delete A`, `rename A A`, `rename A A`, `compact`, `begin`, `begin`, `commit`, `commit`, `drop`, `note`, `setnote T`, `scan`, `verify`, `disk`,
		`add A T`, `add A T`, `add A T 0`, `add A T 0`, `add A T 8 N`, `add A T N N`, `add A T 8 1 2026 11 18 9 24 31`, `add A T 0 0 2026 11 18 N N N`, `add A T 8 9 2000 N N 0 0 0 420`, `add A T 0 0 1999 12 31 23 59 58 N T`,
		`fuse N`, `fuse -1`, `crash N N`, `crash N N N N`, `crash 1 N N N N N N N`, `crash`, `# N`, ``, `  `, `A T`)
	if from.Intn(40) == 0 { // without its last word, or with one more
		line = pick(from, line+` N`, line[:max(0, strings.LastIndex(line, " "))])
	}
	words := strings.Split(line, ` `)
	for i, w := range words {
		if len(w) == 1 && strings.Contains(`NAT`, w) {
			words[i] = drawnWord(from, w[0])
		}
	}
	blanks := strings.Repeat(` `, 1+from.Intn(2)*from.Intn(2))
	return strings.Join(words, blanks) + strings.Repeat(` `, from.Intn(8)/7)
}

func TestModel(t *testing.T) { // P20.2 to P20.9: drawn scripts
	from := rand.New(rand.NewSource(20))
	count := map[string]int{}
	for range 3000 {
		var script strings.Builder
		script.WriteString(pick(from, "open\n", "open\n", "open 0 0\n", ""))
		for range from.Intn(40) {
			script.WriteString(drawnLine(from) + "\n")
		}
		image := pick(from, nil, nil, []byte(theEnd), make([]byte, from.Intn(3)*1024), []byte("no archive"), damagedFile(t))
		capacity := pick(from, 0, 100, 2200, 3000, 8192, 100000, 100000)
		got, out := shell.Run(image, capacity, script.String())
		want, wantOut := plainRun(image, capacity, script.String())
		if got != want || string(out) != string(wantOut) {
			t.Fatalf("%q over %d bytes, capacity %d:\n got %q\nwant %q", script.String(), len(image), capacity, got, want)
		}
		for _, answer := range strings.Split(got, "\n") {
			count[strings.Join(strings.Fields(answer + " . .")[:2], " ")]++
		}
	}
	for _, what := range []string{"ok .", "ok 0", "ok 22", `ok "x"`, `"a" 0`, `"a" 8`, `"a" .`, "error 1", "error 10", "error 12", "error 120", "error 121", "error 130", "error 150", "error 151", "error 152", "error 153", "error 154", "error 170", "error 200", "error 201", "error 202"} {
		if count[what] < 10 {
			t.Errorf("%q: answered %d times", what, count[what])
		}
	}
}
