package record_test

import (
	"archive/zip"
	"bytes"
	"io"
	"math"
	"slices"
	"strings"
	"sync"
	"testing"

	"valise/api"
	"valise/field"
	"valise/record"
)

func putsLocal(t *testing.T, l api.Local, text string, want api.Errno) {
	t.Helper()
	puts(t, locals, l, text, want)
}

func putsEnd(t *testing.T, x api.End, text string, want api.Errno) {
	t.Helper()
	puts(t, ends, x, text, want)
}

func puts[R comparable](t *testing.T, k kind[R], r R, text string, want api.Errno) {
	t.Helper()
	if b, e := k.put(r); string(b) != text || e != want || e != api.OK && b != nil {
		t.Errorf("Put%s(%.200v) = %.100x, %d, want %.100x, %d", k.name, r, b, e, text, want)
	}
}

func getsLocal(t *testing.T, data string, at int, l api.Local, p int, want api.Errno) {
	t.Helper()
	gets(t, locals, data, at, l, p, want)
}

func getsCentral(t *testing.T, data string, at int, c api.Central, p int, want api.Errno) {
	t.Helper()
	gets(t, centrals, data, at, c, p, want)
}

func getsEnd(t *testing.T, data string, at int, x api.End, p int, want api.Errno) {
	t.Helper()
	gets(t, ends, data, at, x, p, want)
}

func gets[R comparable](t *testing.T, k kind[R], data string, at int, want R, p int, e api.Errno) {
	t.Helper()
	if r, q, got := k.get([]byte(data), at); r != want || q != p || got != e {
		t.Errorf("Get%s(%d bytes, %d) = %.200v, %d, %d, want %.200v, %d, %d", k.name, len(data), at, r, q, got, want, p, e)
	}
}

// full is a record in which no two fields are alike.
func full[R comparable](k kind[R]) R {
	var r R
	for i, c := range k.columns {
		switch {
		case c.number != nil && c.bytes == 2:
			*c.number(&r) = 0x0102 + 0x0101*i
		case c.number != nil:
			*c.number(&r) = 0xa1b2c3d4 + 0x01010101*i
		case c.sum != nil:
			*c.sum(&r) = 0x81726354
		default:
			*c.text(&r) = strings.Repeat(c.name, 2) + "\x00\xff"
		}
	}
	return r
}

// putFields goes through the fields of a record one by one: each alone, at its bounds and beyond them.
func putFields[R comparable](t *testing.T, k kind[R], fields int) {
	if k.fields() != fields {
		t.Fatalf("the table of %s has %d bytes", k.name, k.fields())
	}
	for _, c := range k.columns {
		for _, r := range []R{*new(R), full(k)} {
			switch {
			case c.number != nil:
				most := 1<<(8*c.bytes) - 1
				for _, v := range []int{0, 1, 255, 256, most - 1, most} {
					*c.number(&r) = v
					k.same(t, r)
				}
				for _, v := range []int{-1, -most, most + 1, most + 2, most + 1 + 1<<40, 1 << 62, math.MinInt, math.MaxInt} {
					*c.number(&r) = v
					puts(t, k, r, "", api.ErrRecWide)
				}
			case c.sum != nil:
				for _, v := range []uint32{0, 1, 1 << 31, math.MaxUint32} {
					*c.sum(&r) = v
					k.same(t, r)
				}
			default:
				for _, n := range []int{0, 1, 255, 256, 65534, 65535} {
					*c.text(&r) = strings.Repeat("t", n)
					gets(t, k, k.same(t, r), 0, r, k.fields()+textBytes(k, r), api.OK)
				}
				for _, n := range []int{65536, 65537, 131072, 1 << 20} {
					*c.text(&r) = strings.Repeat("t", n)
					puts(t, k, r, "", api.ErrRecWide)
				}
			}
		}
	}
}

// textBytes is how many bytes the texts of a record have.
func textBytes[R comparable](k kind[R], r R) int {
	n := 0
	for _, c := range k.columns {
		if c.text != nil {
			n += len(*c.text(&r))
		}
	}
	return n
}

func TestPutFields(t *testing.T) { // P12.5
	putFields(t, locals, 30)
	putFields(t, centrals, 46)
	putFields(t, ends, 22)
}

// putMost puts a record that has the most of everything.
func putMost[R comparable](t *testing.T, k kind[R]) {
	var r R
	for _, c := range k.columns {
		switch {
		case c.number != nil:
			*c.number(&r) = 1<<(8*c.bytes) - 1
		case c.sum != nil:
			*c.sum(&r) = math.MaxUint32
		default:
			*c.text(&r) = strings.Repeat("\xff", 65535)
		}
	}
	text := k.same(t, r)
	if text[4:] != strings.Repeat("\xff", len(text)-4) {
		t.Errorf("the greatest %s isn't all ff", k.name)
	}
	gets(t, k, "ahead"+text, 5, r, 5+len(text), api.OK)
	gets(t, k, text[:len(text)-1], 0, *new(R), 0, api.ErrRecShort)
}

func TestPutMost(t *testing.T) { // P12.5, P12.6
	putMost(t, locals)
	putMost(t, centrals)
	putMost(t, ends)
}

func TestPutAnything(t *testing.T) { // P12.5: what a name or a method means is not asked
	for _, name := range []string{"", "/", "../..", "\x00", "\xff\xfe", "a\\b", strings.Repeat("../", 21845)} {
		l := api.Local{Method: 65535, Flags: 65535, Date: 0, Clock: 65535, Name: name, Extra: "no field"}
		text := locals.same(t, l)
		getsLocal(t, text, 0, l, len(text), api.OK)
		c := api.Central{Local: l, Disk: 7, Comment: name}
		text = centrals.same(t, c)
		getsCentral(t, text, 0, c, len(text), api.OK)
		x := api.End{Here: 3, Total: 2, DirDisk: 9, Comment: name}
		text = ends.same(t, x)
		getsEnd(t, text, 0, x, len(text), api.OK)
	}
}

// getPlaces reads at every place of bytes that hold a record, and from every cut of them.
func getPlaces[R comparable](t *testing.T, k kind[R]) {
	r := full(k)
	text := k.same(t, r)
	data := "ab" + text + text + "PK"
	for at := -2; at <= len(data)+2; at++ {
		k.reads(t, data, at)
	}
	gets(t, k, data, 2, r, 2+len(text), api.OK)
	gets(t, k, data, 2+len(text), r, 2+2*len(text), api.OK)
	for n := range len(text) {
		gets(t, k, text[:n], 0, *new(R), 0, api.ErrRecShort)
		gets(t, k, "xyz"+text[:n], 3, *new(R), 0, api.ErrRecShort)
	}
	for _, at := range []int{-1, math.MinInt, len(data) + 1, 1 << 40, math.MaxInt - 46, math.MaxInt} {
		gets(t, k, data, at, *new(R), 0, api.ErrArg)
		gets(t, k, "", at, *new(R), 0, api.ErrArg)
	}
	gets(t, k, "", 0, *new(R), 0, api.ErrRecShort)
	gets(t, k, data, len(data), *new(R), 0, api.ErrRecShort)
}

func TestGetPlaces(t *testing.T) { // P12.6
	getPlaces(t, locals)
	getPlaces(t, centrals)
	getPlaces(t, ends)
}

// getSigns reads bytes whose signature is another one, of any record or in a single bit: it is asked ahead of the texts, behind the fields.
func getSigns[R comparable](t *testing.T, k kind[R]) {
	text := k.same(t, full(k))
	for bit := range 32 {
		other := []byte(text)
		other[bit/8] ^= 1 << (bit % 8)
		gets(t, k, string(other), 0, *new(R), 0, api.ErrRecSig)
		gets(t, k, string(other[:k.fields()]), 0, *new(R), 0, api.ErrRecSig)
		gets(t, k, string(other[:k.fields()-1]), 0, *new(R), 0, api.ErrRecShort)
	}
	for _, sign := range []string{"PK\x01\x02", "PK\x03\x04", "PK\x05\x06", "PK\x07\x08", "PK\x06\x06", "\x04\x03KP"} {
		if sign != k.sign {
			gets(t, k, sign+text[4:], 0, *new(R), 0, api.ErrRecSig)
		}
	}
}

func TestGetSigns(t *testing.T) { // P12.6
	getSigns(t, locals)
	getSigns(t, centrals)
	getSigns(t, ends)
}

// getBits turns each single bit of a record: what is then got is another record, and its bytes are again those that were read.
func getBits[R comparable](t *testing.T, k kind[R]) {
	r := full(k)
	text := k.same(t, r)
	room := strings.Repeat("room", 50000)
	for bit := 32; bit < 8*len(text); bit++ {
		other := []byte(text + room)
		other[bit/8] ^= 1 << (bit % 8)
		s, p, e := k.get(other, 0)
		if e != api.OK || s == r {
			t.Fatalf("Get%s with the bit %d turned: %.200v, %d", k.name, bit, s, e)
		}
		if b, e := k.put(s); string(b) != string(other[:p]) || e != api.OK {
			t.Fatalf("Put%s of what was got with the bit %d turned: %d bytes, %d", k.name, bit, len(b), e)
		}
	}
}

func TestGetBits(t *testing.T) { // P12.7
	getBits(t, locals)
	getBits(t, centrals)
	getBits(t, ends)
}

func TestGetFar(t *testing.T) { // data of any length, and a record is read at its own cost: some ten thousand in a file of many bytes
	text := centrals.same(t, full(centrals))
	data := []byte(strings.Repeat("x", 1<<26))
	for at := 0; at < 1<<26-len(text); at += 6000 {
		copy(data[at:], text)
		if c, p, e := record.GetCentral(data, at); c != full(centrals) || p != at+len(text) || e != api.OK {
			t.Fatalf("GetCentral at %d: %d, %d", at, p, e)
		}
		if _, e := record.GetDescriptor(data, at, api.Local{}); e != api.ErrRecSig {
			t.Fatalf("GetDescriptor at %d: %d", at, e)
		}
	}
}

func TestLibraryReads(t *testing.T) { // P12.5: what is put is an archive to another program
	plain := "the plain text"
	l := api.Local{Need: 20, Method: api.MethodStore, Sum: field.Sum([]byte(plain)), Packed: len(plain), Size: len(plain), Name: "dir/é.txt", Extra: "\x99\x99\x02\x00hi", Flags: 1 << 11}
	var e api.Errno
	l.Date, l.Clock, e = record.PackStamp(api.Stamp{Year: 2026, Month: 11, Day: 17, Hour: 13, Minute: 14, Second: 16})
	if e != api.OK {
		t.Fatal(e)
	}
	local, _ := record.PutLocal(l)
	central, _ := record.PutCentral(api.Central{Local: l, Made: 0x0314, External: 0o100644 << 16, Comment: "of the entry"})
	end, _ := record.PutEnd(api.End{Here: 1, Total: 1, DirSize: len(central), DirAt: len(local) + len(plain), Comment: "of the whole"})
	file := slices.Concat(local, []byte(plain), central, end)
	z, err := zip.NewReader(bytes.NewReader(file), int64(len(file)))
	if err != nil || len(z.File) != 1 || z.Comment != "of the whole" {
		t.Fatalf("%v, %d entries", err, len(z.File))
	}
	f := z.File[0]
	if f.Name != l.Name || f.Comment != "of the entry" || f.Modified.Format("2006-01-02 15:04:05") != "2026-11-17 13:14:16" || f.Mode() != 0o644 {
		t.Errorf("%q, %q, %v, %v", f.Name, f.Comment, f.Modified, f.Mode())
	}
	r, err := f.Open()
	if err != nil {
		t.Fatal(err)
	}
	if got, err := io.ReadAll(r); string(got) != plain || err != nil {
		t.Errorf("%q, %v", got, err)
	}
}

func TestLibraryWrites(t *testing.T) { // P12.6, P12.11: what another program wrote is got
	var file bytes.Buffer
	w := zip.NewWriter(&file)
	w.SetComment("of the whole")
	for _, name := range []string{"a", "dir/", "dir/b"} {
		f, err := w.CreateHeader(&zip.FileHeader{Name: name, Comment: "of " + name, Extra: []byte("\x99\x99\x01\x00e"), Method: zip.Store})
		if err != nil {
			t.Fatal(err)
		}
		if !strings.HasSuffix(name, "/") {
			io.WriteString(f, "text of "+name)
		}
	}
	if err := w.Close(); err != nil {
		t.Fatal(err)
	}
	data := file.Bytes()
	x, p, e := record.GetEnd(data, len(data)-22-len("of the whole"))
	if x.Here != 3 || x.Total != 3 || x.Comment != "of the whole" || p != len(data) || e != api.OK {
		t.Fatalf("%v, %d, %d", x, p, e)
	}
	at := x.DirAt
	for _, name := range []string{"a", "dir/", "dir/b"} {
		c, p, e := record.GetCentral(data, at)
		if c.Name != name || c.Comment != "of "+name || c.Method != api.MethodStore || e != api.OK {
			t.Fatalf("%v, %d", c, e)
		}
		splits(t, c.Extra, api.OK, api.Extra{Tag: 0x9999, Data: "e"})
		l, from, e := record.GetLocal(data, c.At)
		if l.Name != name || e != api.OK {
			t.Fatalf("%v, %d", l, e)
		}
		if l.Flags&8 != 0 { // the sizes stand behind the bytes
			plain := data[from : from+c.Packed]
			if string(plain) != "text of "+name || field.Sum(plain) != c.Sum {
				t.Errorf("%q", plain)
			}
			found(t, string(data), from+c.Packed, c.Local, 16, api.OK)
		}
		at = p
	}
	if at != x.DirAt+x.DirSize {
		t.Errorf("the directory ends at %d, not at %d", at, x.DirAt+x.DirSize)
	}
}

func TestNilIsEmpty(t *testing.T) { // P0.2
	for _, data := range [][]byte{nil, {}, make([]byte, 0, 99)} {
		for _, at := range []int{0, 1, -1} {
			want := api.ErrArg
			if at == 0 {
				want = api.ErrRecShort
			}
			_, _, a := record.GetLocal(data, at)
			_, _, b := record.GetCentral(data, at)
			_, _, c := record.GetEnd(data, at)
			_, d := record.GetDescriptor(data, at, api.Local{})
			for _, e := range []api.Errno{a, b, c, d} {
				if e != want {
					t.Errorf("of nothing at %d: %d", at, e)
				}
			}
		}
	}
	for _, fields := range [][]api.Extra{nil, {}, make([]api.Extra, 0, 9)} {
		joins(t, "", api.OK, fields...)
	}
}

// roomy is a list with room behind its end that is not to be touched, and what it is with that room.
func roomy[T any](list []T, fill T) ([]T, []T) {
	whole := slices.Concat(list, slices.Repeat([]T{fill}, 300))
	return whole[:len(list)], slices.Clone(whole)
}

// spoil writes over a list and over the room behind its end.
func spoil[T any](list []T, v T) {
	list = list[:cap(list)]
	for i := range list {
		list[i] = v
	}
}

// getKeeps reads from bytes with room behind them, which a record that is cut short must not look into, and spoils them afterwards.
func getKeeps[R comparable](t *testing.T, k kind[R]) {
	r := full(k)
	text := k.same(t, r)
	data, all := roomy([]byte(text), 'z')
	s, p, e := k.get(data, 0)
	if s != r || p != len(text) || e != api.OK || string(data[:cap(data)][:len(all)]) != string(all) {
		t.Errorf("Get%s: %.200v, %d, %d, or what was handed in is changed", k.name, s, p, e)
	}
	for n := range len(text) {
		if s, p, e := k.get(data[:n], 0); s != *new(R) || p != 0 || e != api.ErrRecShort {
			t.Errorf("Get%s of %d bytes, with the rest in the room behind them: %.200v, %d, %d", k.name, n, s, p, e)
		}
	}
	spoil(data, 'q')
	if s != r {
		t.Errorf("Get%s: the answer became %.200v", k.name, s)
	}
}

// putKeeps spoils what was put, and puts again.
func putKeeps[R comparable](t *testing.T, k kind[R]) {
	text := k.same(t, full(k))
	one, _ := k.put(full(k))
	two, _ := k.put(full(k))
	spoil(one, 'q')
	if string(two) != text {
		t.Errorf("Put%s: the other answer became %x", k.name, two)
	}
	k.same(t, full(k))
}

func TestMemory(t *testing.T) { // P0.3
	getKeeps(t, locals)
	getKeeps(t, centrals)
	getKeeps(t, ends)
	putKeeps(t, locals)
	putKeeps(t, centrals)
	putKeeps(t, ends)

	l := api.Local{Sum: 1, Packed: 2, Size: 3}
	one, _ := record.PutDescriptor(l, true)
	two, _ := record.PutDescriptor(l, true)
	data, all := roomy(two, 'z')
	spoil(one, 'q')
	if n, e := record.GetDescriptor(data, 0, l); n != 16 || e != api.OK || string(data[:cap(data)][:len(all)]) != string(all) {
		t.Errorf("GetDescriptor = %d, %d, or what was handed in is changed", n, e)
	}
	if n, e := record.GetDescriptor(data[:11], 0, l); n != 0 || e != api.ErrRecShort {
		t.Errorf("GetDescriptor looks beyond the end: %d, %d", n, e)
	}

	given, whole := roomy([]api.Extra{{Tag: 1, Data: "a"}, {Tag: 2}}, api.Extra{Tag: 9})
	text, _ := record.JoinExtra(given)
	if !slices.Equal(given[:cap(given)][:len(whole)], whole) {
		t.Errorf("JoinExtra changed its fields: %v", given)
	}
	spoil(given, api.Extra{Tag: 7})
	fields, _ := record.SplitExtra(text)
	spoil(fields, api.Extra{Tag: 8})
	splits(t, text, api.OK, api.Extra{Tag: 1, Data: "a"}, api.Extra{Tag: 2})
}

func TestSideBySide(t *testing.T) { // P0.7
	var workers sync.WaitGroup
	for range 8 {
		workers.Go(func() {
			for year := 1980; year <= 2107; year++ {
				packs(t, api.Stamp{Year: year, Month: 2, Day: 28}, (year-1980)*512+64+28, 0, api.OK)
				checks(t, strings.Repeat("a/", year-1979), api.OK)
				if _, _, e := record.GetLocal([]byte(locals.sign), year); e != api.ErrArg {
					t.Errorf("GetLocal at %d: %d", year, e)
				}
				splits(t, "\x01\x00\x00\x00", api.OK, api.Extra{Tag: 1})
			}
		})
	}
	workers.Wait()
}
