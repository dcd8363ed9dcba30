package tape_test

import (
	"fmt"
	"slices"
	"strings"
	"testing"

	"valise/api"
	"valise/tape"
)

// three is a tape of a file, a link and a folder, and the files.
func three() (string, []api.File) {
	f := []api.File{a(), {Name: "l", Kind: 2, Link: "a"}, {Name: "d/", Kind: 5, User: "me"}, {Name: "long", Data: []byte(strings.Repeat("long", 200))}}
	out, _ := plainPut(f)
	return out, f
}

func TestGetCut(t *testing.T) { // P24.2: the bytes end too early
	data, files := three()
	for n := range len(data) {
		no(t, data[:n], api.ErrTapeShort)
	}
	get(t, data, files...)
	for n := range len(data) {
		get(t, data+data[:n], files...)
	}
}

func TestGetEnd(t *testing.T) { // P24.2: behind a record of zero bytes stands another one
	data, files := three()
	for at := range 512 {
		for _, b := range []string{"\x01", " ", "0", "\xff"} {
			bad := zeros(at) + b + zeros(511-at)
			for _, ahead := range []string{"", data[:len(data)-1024]} {
				no(t, ahead+zeros(512)+bad, api.ErrTapeHead)
				no(t, ahead+zeros(512)+bad+zeros(1024), api.ErrTapeHead)
				no(t, ahead+zeros(512)+bad[:511], api.ErrTapeShort)
			}
			get(t, zeros(1024)+bad)
			get(t, data+bad+"x", files...)
		}
	}
	no(t, zeros(512)+ofA().summed(), api.ErrTapeHead) // a header, too
	for at := range 512 {                             // a single byte that is not zero, and it is a header
		no(t, zeros(at)+"\x01"+zeros(511-at)+zeros(1024), api.ErrTapeSum)
	}
}

// numberEdges are fields of n bytes, and what they say: -1 where nothing.
func numberEdges(n int) map[string]int {
	seven := strings.Repeat("7", n-1)
	last := 1<<(3*(n-1)) - 1
	out := map[string]int{
		strings.Repeat(" ", n): 0, zeros(n): 0, seven + "\x00": last, seven + " ": last, seven + "7": -1, " " + seven: -1,
		strings.Repeat("0", n): -1, strings.Repeat("0", n-1) + "\x00": 0, strings.Repeat("0", n-1) + " ": 0,
		"\x00" + seven: -1, "\x00" + seven[1:] + "\x00": -1, " " + seven[1:] + " ": last >> 3, " " + seven[1:] + "\x00": last >> 3,
		" \x00" + zeros(n-2): 0, "\x00 " + zeros(n-2): 0, zeros(n-1) + " ": 0, " " + zeros(n-1): 0, zeros(n-1) + "0": -1, zeros(n-1) + "\x01": -1,
		strings.Repeat(" ", n-1) + "1": -1, strings.Repeat(" ", n-2) + "1 ": 1, strings.Repeat(" ", n-2) + "1\x00": 1,
	}
	for _, text := range []string{"1", "17", "1 ", "1\x00", " 1", "  1 \x00 ", "1\x00\x00 "} {
		v := 1
		if text == "17" {
			v = 15
		}
		out[padded(text, n)] = v
		out[text+strings.Repeat(" ", n-len(text))] = v
	}
	for _, text := range []string{"8", "18", "1 1", "1\x001", "-1", "+1", "1_1", "0x1", "0o1", "1.", "a", "\x80\x01", "\xff", "1\n", "\t1", "1\t", "\u00a01", " \x00 1", "\x00\x001"} {
		out[padded(text, n)] = -1
		out[text+strings.Repeat(" ", n-len(text))] = -1
	}
	return out
}

func TestGetNumbers(t *testing.T) { // P24.2: number fields
	for i, set := range []func(*head, *api.File, string, int){
		func(h *head, f *api.File, text string, v int) { h.mode, f.Mode = text, v },
		func(h *head, f *api.File, text string, v int) { h.owner, f.Owner = text, v },
		func(h *head, f *api.File, text string, v int) { h.group, f.Group = text, v },
		func(h *head, f *api.File, text string, v int) { h.time, f.Time = text, v },
	} {
		n := []int{8, 8, 8, 12}[i]
		for text, v := range numberEdges(n) {
			h, f := ofA(), a()
			set(&h, &f, text, v)
			if v < 0 {
				no(t, tapeOf(h), api.ErrTapeHead)
				continue
			}
			get(t, tapeOf(h), f)
		}
	}
}

func TestGetSizes(t *testing.T) { // P24.2, P24.3: the field size
	for text, v := range numberEdges(12) {
		h, f := ofA(), a()
		h.size = text
		data := strings.Repeat("d", 20)
		f.Data = []byte(data[:min(max(v, 0), len(data))])
		folder, link := h, h
		folder.name, folder.kind = padded("a/", 100), "5"
		link.kind, link.link = "2", padded("to", 100)
		switch {
		case v < 0:
			no(t, taped(h.summed(), whole(data)), api.ErrTapeHead)
		case v > len(data):
			no(t, taped(h.summed(), whole(data)), api.ErrTapeShort)
		default:
			get(t, taped(h.summed(), whole(data[:v])), f)
		}
		if v != 0 {
			no(t, taped(folder.summed(), whole(data)), api.ErrTapeHead)
			no(t, taped(link.summed(), whole(data)), api.ErrTapeHead)
			continue
		}
		get(t, taped(folder.summed()), api.File{Name: "a/", Kind: 5, Mode: 420, Time: 1})
		get(t, taped(link.summed()), api.File{Name: "a", Kind: 2, Link: "to", Mode: 420, Time: 1})
	}
	for n := range 1100 {
		h, f := ofA(), a()
		h.size = octal(n, 12)
		f.Data = []byte(strings.Repeat("\x01", n))
		get(t, taped(h.summed(), string(f.Data), strings.Repeat("#", len(whole(string(f.Data)))-n)), f) // what fills up is not looked at
		if n > 0 {
			no(t, h.summed()+whole(string(f.Data))[1:], api.ErrTapeShort) // though all of Data is there, unless it fills its records
		}
	}
}

func TestGetSum(t *testing.T) { // P24.2: the field sum
	h := ofA()
	for _, sum := range []string{"007341\x00 ", "0007341\x00", "   7341 ", "7341\x00\x00\x00\x00", "7341    ", "  7341 \x00", "007341  ", "7341\x00 \x00 "} {
		get(t, taped(h.with(sum), whole("hi")), a())
	}
	for _, sum := range []string{"00007341", "007342\x00 ", "007340\x00 ", "000000\x00 ", zeros(8), "        ", "\x007341\x00\x00\x00", "73 41\x00\x00\x00", "7341x\x00\x00\x00", "8341\x00\x00\x00\x00", "-7341\x00\x00\x00", "3809\x00\x00\x00\x00", "7777777\x00", " 0007341"} {
		no(t, taped(h.with(sum), whole("hi")), api.ErrTapeSum)
	}
	for n := range 8 * 256 { // a sum of numbers without a sign
		h.room = strings.Repeat("\xff", n/256) + string([]byte{byte(n)}) + zeros(11-n/256)
		get(t, tapeOf(h), a())
	}
	signed := ofA()
	signed.room = "\xff" + zeros(11)
	no(t, taped(signed.with(fmt.Sprintf("%06o\x00 ", signed.sum()-256)), whole("hi")), api.ErrTapeSum)
}

func TestGetTexts(t *testing.T) { // P24.2: text fields
	for i, n := range map[int]int{0: 100, 7: 100, 10: 32, 11: 32, 14: 155} {
		link, spare := i == 7, i == 10 || i == 11
		for length := 0; length <= n; length++ {
			h, f := ofA(), a()
			if link {
				h.kind, f.Kind, f.Link, f.Data, h.size = "2", 2, "to", nil, octal(0, 12)
				h.link = padded("to", 100)
			}
			text := strings.Repeat("t", length)
			*h.fieldOf(i) = padded(text, n)
			switch {
			case i == 0:
				f.Name = text
			case i == 7:
				f.Link = text
			case i == 10:
				f.User = text
			case i == 11:
				f.Team = text
			case length > 0:
				f.Name = text + "/a"
			}
			data := taped(h.summed(), whole(string(f.Data)))
			if length == n && spare || length == 0 && (i == 0 || link) {
				no(t, data, api.ErrTapeHead)
				continue
			}
			get(t, data, f)
			if length+1 < n { // a byte behind the zero bytes, or behind one of them
				*h.fieldOf(i) = padded(text, n-1) + "x"
				no(t, taped(h.summed(), whole(string(f.Data))), api.ErrTapeHead)
				*h.fieldOf(i) = padded(text+"\x00 ", n+1)[:n]
				no(t, taped(h.summed(), whole(string(f.Data))), api.ErrTapeHead)
			}
		}
	}
}

func TestGetKinds(t *testing.T) { // P24.2, P24.3: each byte as the kind
	for b := range 256 {
		for _, name := range []string{"a", "a/"} {
			for _, link := range []string{"", "to"} {
				h := ofA()
				h.kind, h.name, h.link, h.size = string([]byte{byte(b)}), padded(name, 100), padded(link, 100), octal(0, 12)
				f := api.File{Name: name, Mode: 420, Time: 1}
				folder := name == "a/"
				switch {
				case (b == '0' || b == 0) && !folder:
					get(t, taped(h.summed()), f)
				case b == '2' && !folder && link != "":
					f.Kind, f.Link = 2, link
					get(t, taped(h.summed()), f)
				case b == '5' && folder:
					f.Kind = 5
					get(t, taped(h.summed()), f)
				default:
					no(t, taped(h.summed()), api.ErrTapeHead)
				}
			}
		}
	}
}

func TestGetMagic(t *testing.T) { // P24.2: magic and version
	for at := range 8 {
		for b := range 256 {
			h := ofA()
			text := []byte(h.magic + h.version)
			if int(text[at]) == b {
				continue
			}
			text[at] = byte(b)
			h.magic, h.version = string(text[:6]), string(text[6:])
			no(t, tapeOf(h), api.ErrTapeHead)
		}
	}
	h := ofA()
	h.magic, h.version = "ustar ", " \x00" // another form of tapes
	no(t, tapeOf(h), api.ErrTapeHead)
}

func TestGetNotLookedAt(t *testing.T) { // P24.2
	for _, text := range []string{zeros(100), strings.Repeat("x", 100), "\x00x\x00\xff" + strings.Repeat(" 9", 48)} {
		for i, n := range map[int]int{7: 100, 12: 8, 13: 8, 15: 12} {
			h := ofA()
			*h.fieldOf(i) = text[:n]
			get(t, tapeOf(h), a())
			h.kind = "\x00"
			get(t, tapeOf(h), a())
			h.kind, h.name, h.size = "5", padded("a/", 100), octal(0, 12)
			get(t, taped(h.summed()), api.File{Name: "a/", Kind: 5, Mode: 420, Time: 1})
		}
	}
}

func TestGetNames(t *testing.T) { // P24.3: the prefix, a slash and the field name
	n := func(n int) string { return strings.Repeat("n", n) }
	for _, x := range [][2]string{{"p", "n"}, {n(155), n(100)}, {"/", "n"}, {"/", n(100)}, {"p/", "n"}, {"p", "/n"}, {"p", "n/n"}, {"", n(100)}, {"", "/n"}, {n(155), "n"}, {"p", n(100)}, {n(155), "/"}, {"p", "n/"}, {"p", "/"}, {"", "/"}, {" ", " "}} {
		data, f := named(x[0], x[1])
		get(t, data, f)
	}
	for _, prefix := range []string{"", "p", "p/", "/", n(155)} { // an empty field name
		for _, kind := range []string{"0", "\x00", "5", "2"} {
			h := ofA()
			h.prefix, h.name, h.kind, h.size, h.link = padded(prefix, 155), zeros(100), kind, octal(0, 12), padded("to", 100)
			no(t, taped(h.summed()), api.ErrTapeHead)
		}
	}
}

func TestGetOrder(t *testing.T) { // P24.2: the first thing with which it cannot go on
	bad := ofA()
	bad.magic = "ustar "
	long := ofA()
	long.size = octal(2000, 12)
	both := bad
	both.size = long.size
	no(t, bad.with("000000\x00 "), api.ErrTapeSum)
	no(t, long.with("000000\x00 "), api.ErrTapeSum)
	no(t, both.summed(), api.ErrTapeHead)
	no(t, bad.summed()[:511], api.ErrTapeShort)
	no(t, bad.with("000000\x00 ")[:511], api.ErrTapeShort)
	no(t, long.summed()+zeros(1024), api.ErrTapeShort)
	good := ofA().summed() + whole("hi")
	no(t, good+bad.summed()+long.summed(), api.ErrTapeHead)
	no(t, good+bad.with("000000\x00 "), api.ErrTapeSum)
	no(t, good+good+long.summed(), api.ErrTapeShort)
	no(t, good+zeros(512)+bad.summed(), api.ErrTapeHead)
	no(t, long.summed()+zeros(2047)+zeros(512), api.ErrTapeShort) // its data reach beyond the tape's end
	no(t, long.summed()+zeros(2048)+zeros(511), api.ErrTapeShort)
	no(t, long.summed()+zeros(2048)+zeros(512)+"x"+zeros(511), api.ErrTapeHead)
	f := a()
	f.Data = make([]byte, 2000)
	get(t, long.summed()+zeros(2048)+zeros(1024), f)
}

func TestGetTooLong(t *testing.T) { // P24.2
	data, files := three()
	long := data + strings.Repeat("x", most-len(data))
	get(t, long, files...)
	no(t, long+"x", api.ErrArg)
	no(t, zeros(most+1), api.ErrArg)
	no(t, strings.Repeat("x", most+1), api.ErrArg)
	get(t, zeros(most))
	no(t, strings.Repeat("x", most), api.ErrTapeSum)
}

func TestGetEmpty(t *testing.T) { // P24.2: of no files, many
	n := (most - 1024) / 512
	h := ofA()
	h.size = octal(0, 12)
	files, e := tape.Get([]byte(strings.Repeat(h.summed(), n) + zeros(1024)))
	f := a()
	f.Data = nil
	if !alike(files, slices.Repeat([]api.File{f}, n)) || e != api.OK {
		t.Errorf("%d files, %d", len(files), e)
	}
	no(t, strings.Repeat(h.summed(), n+2), api.ErrTapeShort)
}
