package tape_test

import (
	"fmt"
	"math/rand"
	"regexp"
	"strconv"
	"strings"
	"testing"

	"valise/api"
	"valise/tape"
)

// What stands here is the chapter word for word, with no thought of cost.

// plainFits tells whether a name fits.
func plainFits(name string) bool {
	fits := len(name) >= 1 && len(name) <= 100
	for i := range len(name) {
		prefix, rest := name[:i], name[i+1:]
		if name[i] == '/' && len(prefix) >= 1 && len(prefix) <= 155 && len(rest) >= 1 && len(rest) <= 100 {
			fits = true
		}
	}
	return fits
}

// plainCut cuts a name that fits.
func plainCut(name string) (prefix, rest string, ok bool) {
	if !plainFits(name) {
		return "", "", false
	}
	if len(name) <= 100 {
		return "", name, true
	}
	for i := 1; ; i++ {
		if name[i] == '/' && len(name[i+1:]) <= 100 {
			return name[:i], name[i+1:], true
		}
	}
}

// plainSound tells whether a file is sound.
func plainSound(f api.File) bool {
	within := func(v, most int) bool { return v >= 0 && v <= most }
	link := f.Link == ""
	if f.Kind == 2 {
		link = len(f.Link) >= 1 && len(f.Link) <= 100
	}
	return (f.Kind == 0 || f.Kind == 2 || f.Kind == 5) &&
		!strings.ContainsRune(f.Name, 0) && !strings.ContainsRune(f.Link, 0) && !strings.ContainsRune(f.User, 0) && !strings.ContainsRune(f.Team, 0) &&
		len(f.User) <= 31 && len(f.Team) <= 31 &&
		within(f.Mode, 2097151) && within(f.Owner, 2097151) && within(f.Group, 2097151) && within(f.Time, 8589934591) &&
		link && (len(f.Data) == 0 || f.Kind == 0) &&
		(f.Kind == 5) == strings.HasSuffix(f.Name, "/") && plainFits(f.Name)
}

// plainPut is P24.1.
func plainPut(files []api.File) (string, api.Errno) {
	size := 1024
	for _, f := range files {
		size += 512 + len(whole(string(f.Data)))
	}
	if size > 16777216 {
		return "", api.ErrArg
	}
	var out strings.Builder
	for _, f := range files {
		if !plainSound(f) {
			return "", api.ErrTapeField
		}
		prefix, name, _ := plainCut(f.Name)
		h := head{
			name: padded(name, 100), mode: octal(f.Mode, 8), owner: octal(f.Owner, 8), group: octal(f.Group, 8),
			size: octal(len(f.Data), 12), time: octal(f.Time, 12), kind: strconv.Itoa(f.Kind), link: padded(f.Link, 100),
			magic: "ustar\x00", version: "00", user: padded(f.User, 32), team: padded(f.Team, 32),
			major: octal(0, 8), minor: octal(0, 8), prefix: padded(prefix, 155), room: zeros(12),
		}
		out.WriteString(h.summed() + whole(string(f.Data)))
	}
	return out.String() + zeros(1024), api.OK
}

var numberField = regexp.MustCompile(`^ *([0-7]*)[ \x00]+$`)

// plainNumber reads a number field.
func plainNumber(field string) (int, bool) {
	found := numberField.FindStringSubmatch(field)
	if found == nil {
		return 0, false
	}
	v, _ := strconv.ParseInt("0"+found[1], 8, 64)
	return int(v), true
}

// plainText reads a text field, which has so many zero bytes at least.
func plainText(field string, least int) (string, bool) {
	text, behind, ended := strings.Cut(field, "\x00")
	return text, behind == zeros(len(behind)) && (ended || least == 0)
}

// plainHead tells what a header says, and how many bytes of data; or an error.
func plainHead(record string) (f api.File, size int, e api.Errno) {
	sum := 0
	for i := range 512 {
		if i >= 148 && i < 156 {
			sum += ' '
		} else {
			sum += int(record[i])
		}
	}
	if n, ok := plainNumber(record[148:156]); !ok || n != sum {
		return f, 0, api.ErrTapeSum
	}
	all := true
	number := func(at, n int) int {
		v, ok := plainNumber(record[at : at+n])
		all = all && ok
		return v
	}
	text := func(at, n, least int) string {
		v, ok := plainText(record[at:at+n], least)
		all = all && ok
		return v
	}
	switch record[156] {
	case '0', 0:
	case '2':
		f.Kind, f.Link = 2, text(157, 100, 0)
	case '5':
		f.Kind = 5
	default:
		all = false
	}
	f.Mode, f.Owner, f.Group, size, f.Time = number(100, 8), number(108, 8), number(116, 8), number(124, 12), number(136, 12)
	f.User, f.Team = text(265, 32, 1), text(297, 32, 1)
	name, prefix := text(0, 100, 0), text(345, 155, 0)
	f.Name = name
	if prefix != "" {
		f.Name = prefix + "/" + name
	}
	if !all || record[257:263] != "ustar\x00" || record[263:265] != "00" || name == "" || f.Kind != 0 && size != 0 || !plainSound(f) {
		return api.File{}, 0, api.ErrTapeHead
	}
	return f, size, api.OK
}

// plainGet is P24.2.
func plainGet(data string) ([]api.File, api.Errno) {
	if len(data) > 16777216 {
		return nil, api.ErrArg
	}
	var files []api.File
	for {
		if len(data) < 512 {
			return nil, api.ErrTapeShort
		}
		record := data[:512]
		data = data[512:]
		if record == zeros(512) {
			if len(data) < 512 {
				return nil, api.ErrTapeShort
			}
			if data[:512] != zeros(512) {
				return nil, api.ErrTapeHead
			}
			return files, api.OK
		}
		f, size, e := plainHead(record)
		if e != api.OK {
			return nil, e
		}
		records := (size + 511) / 512
		if len(data) < 512*records {
			return nil, api.ErrTapeShort
		}
		f.Data = []byte(data[:size])
		data = data[512*records:]
		files = append(files, f)
	}
}

// drawOdd draws what a field of n bytes may be in a tape of another program, or in none.
func drawOdd(from *rand.Rand, n int) string {
	out := ""
	for len(out) < n {
		switch from.Intn(6) {
		case 0:
			out += strings.Repeat(" ", from.Intn(n))
		case 1:
			out += zeros(from.Intn(n + 1))
		case 2:
			out += octal(from.Intn(1<<from.Intn(20)), 1+from.Intn(n))
		case 3:
			out += strings.Repeat("7", from.Intn(n+1))
		case 4:
			out += string([]byte{byte(from.Intn(256))})
		case 5:
			out += drawText(from, from.Intn(n+1))
		}
	}
	return out[:n]
}

// drawHead is a file's header, or nearly so: its sum is right.
func drawHead(from *rand.Rand, f api.File) string {
	out, _ := plainPut([]api.File{f})
	lengths := []int{100, 8, 8, 8, 12, 12, 8, 1, 100, 6, 2, 32, 32, 8, 8, 155, 12}
	fields := make([]string, 0, 17)
	for _, n := range lengths {
		fields = append(fields, out[:n])
		out = out[n:]
	}
	h := head{fields[0], fields[1], fields[2], fields[3], fields[4], fields[5], fields[7], fields[8], fields[9], fields[10], fields[11], fields[12], fields[13], fields[14], fields[15], fields[16]}
	for range from.Intn(3) {
		p := h.fieldOf(from.Intn(16))
		*p = drawOdd(from, len(*p))
	}
	if from.Intn(4) == 0 {
		h.kind = string([]byte{"\x000125x"[from.Intn(6)]})
	}
	sum := fmt.Sprintf("%o", h.sum())
	spelt := []string{"%06s\x00 ", "%07s\x00", "%7s ", "%7s\x00"}[from.Intn(4)]
	sum = fmt.Sprintf(spelt, sum)
	if from.Intn(20) == 0 {
		sum = drawOdd(from, 8)
	}
	return h.with(sum)
}

func TestModelGet(t *testing.T) { // P24.2, P24.3
	from := rand.New(rand.NewSource(2402))
	met := map[api.Errno]int{}
	for range 40000 {
		data := ""
		for range 1 + from.Intn(2) {
			f := drawFile(from)
			data += drawHead(from, f) + whole(string(f.Data))
		}
		data += zeros(1024)
		switch from.Intn(12) {
		case 0:
			data = data[:from.Intn(len(data))]
		case 1:
			data = data[:len(data)-512] + drawOdd(from, 512)
		case 2:
			at := from.Intn(len(data))
			data = data[:at] + drawOdd(from, 1) + data[at+1:]
		case 3:
			data += drawOdd(from, 700)
		}
		want, e := plainGet(data)
		met[e]++
		if e != api.OK {
			no(t, data, e)
			continue
		}
		get(t, data, want...)
		again(t, data, want)
	}
	for _, e := range []api.Errno{api.OK, api.ErrTapeHead, api.ErrTapeSum, api.ErrTapeShort} {
		if met[e] < 1000 {
			t.Errorf("the error %d was met %d times", e, met[e])
		}
	}
}

// again holds that files that Get has answered are sound, and that Put of them is no longer than the bytes that they came from.
func again(t *testing.T, data string, files []api.File) {
	t.Helper()
	out, e := tape.Put(files)
	if e != api.OK || len(out) > len(data) {
		t.Fatalf("Put of what Get of %d bytes answers: %d bytes, %d", len(data), len(out), e)
	}
	get(t, string(out), files...)
}

// spoilFile makes one thing of a file another one.
func spoilFile(from *rand.Rand, f api.File) api.File {
	switch from.Intn(10) {
	case 0:
		f.Name = drawText(from, from.Intn(300))
	case 1:
		f.Name += []string{"/", "\x00", "x"}[from.Intn(3)]
	case 2:
		f.Link = drawText(from, from.Intn(104))
	case 3:
		f.User = drawText(from, from.Intn(34))
	case 4:
		f.Team = drawText(from, from.Intn(34)) + zeros(from.Intn(2))
	case 5:
		f.Kind = from.Intn(8) - 1
	case 6:
		f.Mode = from.Intn(1<<23) - 5
	case 7:
		f.Owner, f.Group = from.Intn(1<<22), -from.Intn(3)
	case 8:
		f.Time = from.Intn(1<<34) - 5
	case 9:
		f.Data = []byte(drawText(from, from.Intn(3)))
	}
	return f
}

func TestModelPut(t *testing.T) { // P24.1, P24.4
	from := rand.New(rand.NewSource(2401))
	met := map[api.Errno]int{}
	for range 20000 {
		files := drawFiles(from)
		if len(files) > 0 && from.Intn(2) == 0 {
			i := from.Intn(len(files))
			files[i] = spoilFile(from, files[i])
		}
		want, e := plainPut(files)
		met[e]++
		if e != api.OK {
			refuse(t, e, files...)
			continue
		}
		put(t, want, files...)
		get(t, want+drawOdd(from, 1+from.Intn(600)), files...) // whatever stands behind the tape
	}
	for _, e := range []api.Errno{api.OK, api.ErrTapeField} {
		if met[e] < 1000 {
			t.Errorf("the error %d was met %d times", e, met[e])
		}
	}
}

func TestModelAnyBytes(t *testing.T) { // P0.1, P0.4: whatever it is given
	from := rand.New(rand.NewSource(2400))
	for range 20000 {
		data := make([]byte, from.Intn(2200))
		for range from.Intn(20) {
			if len(data) > 0 {
				data[from.Intn(len(data))] = byte(from.Intn(256))
			}
		}
		files, e := tape.Get(data)
		if want, f := plainGet(string(data)); !alike(files, want) || e != f || e != api.OK && files != nil {
			t.Fatalf("Get(%q) = %s, %d, want %d", data, brief(files...), e, f)
		}
	}
}
