package record_test

import (
	"math"
	"math/rand"
	"strings"
	"testing"

	"valise/api"
	"valise/record"
)

// column is a line of the chapter's table of a record: so many bytes, which hold a number, a sum, or how long a text is.
type column[R any] struct {
	name   string
	bytes  int
	number func(*R) *int
	sum    func(*R) *uint32
	text   func(*R) *string
}

// kind is one of the chapter's three records, by its table.
type kind[R comparable] struct {
	name    string
	sign    string
	columns []column[R]
	put     func(R) ([]byte, api.Errno)
	get     func([]byte, int) (R, int, api.Errno)
}

var locals = kind[api.Local]{"Local", "PK\x03\x04", []column[api.Local]{
	{name: "Need", bytes: 2, number: func(l *api.Local) *int { return &l.Need }},
	{name: "Flags", bytes: 2, number: func(l *api.Local) *int { return &l.Flags }},
	{name: "Method", bytes: 2, number: func(l *api.Local) *int { return &l.Method }},
	{name: "Clock", bytes: 2, number: func(l *api.Local) *int { return &l.Clock }},
	{name: "Date", bytes: 2, number: func(l *api.Local) *int { return &l.Date }},
	{name: "Sum", bytes: 4, sum: func(l *api.Local) *uint32 { return &l.Sum }},
	{name: "Packed", bytes: 4, number: func(l *api.Local) *int { return &l.Packed }},
	{name: "Size", bytes: 4, number: func(l *api.Local) *int { return &l.Size }},
	{name: "Name", bytes: 2, text: func(l *api.Local) *string { return &l.Name }},
	{name: "Extra", bytes: 2, text: func(l *api.Local) *string { return &l.Extra }},
}, record.PutLocal, record.GetLocal}

var centrals = kind[api.Central]{"Central", "PK\x01\x02", []column[api.Central]{
	{name: "Made", bytes: 2, number: func(c *api.Central) *int { return &c.Made }},
	{name: "Need", bytes: 2, number: func(c *api.Central) *int { return &c.Need }},
	{name: "Flags", bytes: 2, number: func(c *api.Central) *int { return &c.Flags }},
	{name: "Method", bytes: 2, number: func(c *api.Central) *int { return &c.Method }},
	{name: "Clock", bytes: 2, number: func(c *api.Central) *int { return &c.Clock }},
	{name: "Date", bytes: 2, number: func(c *api.Central) *int { return &c.Date }},
	{name: "Sum", bytes: 4, sum: func(c *api.Central) *uint32 { return &c.Sum }},
	{name: "Packed", bytes: 4, number: func(c *api.Central) *int { return &c.Packed }},
	{name: "Size", bytes: 4, number: func(c *api.Central) *int { return &c.Size }},
	{name: "Name", bytes: 2, text: func(c *api.Central) *string { return &c.Name }},
	{name: "Extra", bytes: 2, text: func(c *api.Central) *string { return &c.Extra }},
	{name: "Comment", bytes: 2, text: func(c *api.Central) *string { return &c.Comment }},
	{name: "Disk", bytes: 2, number: func(c *api.Central) *int { return &c.Disk }},
	{name: "Internal", bytes: 2, number: func(c *api.Central) *int { return &c.Internal }},
	{name: "External", bytes: 4, number: func(c *api.Central) *int { return &c.External }},
	{name: "At", bytes: 4, number: func(c *api.Central) *int { return &c.At }},
}, record.PutCentral, record.GetCentral}

var ends = kind[api.End]{"End", "PK\x05\x06", []column[api.End]{
	{name: "Disk", bytes: 2, number: func(x *api.End) *int { return &x.Disk }},
	{name: "DirDisk", bytes: 2, number: func(x *api.End) *int { return &x.DirDisk }},
	{name: "Here", bytes: 2, number: func(x *api.End) *int { return &x.Here }},
	{name: "Total", bytes: 2, number: func(x *api.End) *int { return &x.Total }},
	{name: "DirSize", bytes: 4, number: func(x *api.End) *int { return &x.DirSize }},
	{name: "DirAt", bytes: 4, number: func(x *api.End) *int { return &x.DirAt }},
	{name: "Comment", bytes: 2, text: func(x *api.End) *string { return &x.Comment }},
}, record.PutEnd, record.GetEnd}

// fields is how many bytes the record's fields have.
func (k kind[R]) fields() int {
	n := 4
	for _, c := range k.columns {
		n += c.bytes
	}
	return n
}

// plainPut is Put by the chapter's words.
func (k kind[R]) plainPut(r R) (string, api.Errno) {
	text, behind := k.sign, ""
	for _, c := range k.columns {
		v := 0
		switch {
		case c.number != nil:
			v = *c.number(&r)
		case c.sum != nil:
			v = int(*c.sum(&r))
		default:
			v = len(*c.text(&r))
			behind += *c.text(&r)
		}
		if v < 0 || c.bytes == 2 && v > 65535 || v > 4294967295 {
			return "", api.ErrRecWide
		}
		for range c.bytes {
			text += string([]byte{byte(v % 256)})
			v /= 256
		}
	}
	return text + behind, api.OK
}

// plainGet is Get by the chapter's words.
func (k kind[R]) plainGet(data string, at int) (R, int, api.Errno) {
	var r, none R
	if at < 0 || at > len(data) {
		return none, 0, api.ErrArg
	}
	data = data[at:]
	if len(data) < k.fields() {
		return none, 0, api.ErrRecShort
	}
	if data[:4] != k.sign {
		return none, 0, api.ErrRecSig
	}
	place, behind := 4, k.fields()
	for _, c := range k.columns {
		v := 0
		for i := range c.bytes {
			v += int(data[place+i]) << (8 * i)
		}
		place += c.bytes
		switch {
		case c.number != nil:
			*c.number(&r) = v
		case c.sum != nil:
			*c.sum(&r) = uint32(v)
		case behind+v > len(data):
			return none, 0, api.ErrRecShort
		default:
			*c.text(&r) = data[behind : behind+v]
			behind += v
		}
	}
	return r, at + behind, api.OK
}

// draw is a record of drawn numbers and texts, now and then with one that may not be.
func (k kind[R]) draw(from *rand.Rand) R {
	var r R
	for _, c := range k.columns {
		switch {
		case c.number != nil:
			most := 1<<(8*c.bytes) - 1
			*c.number(&r) = []int{0, 1, most - 1, most, from.Intn(most), from.Intn(300), from.Intn(most)}[from.Intn(7)]
			if from.Intn(100) == 0 {
				*c.number(&r) = []int{-1, most + 1, math.MinInt, math.MaxInt, -from.Int(), most + from.Intn(1<<40)}[from.Intn(6)]
			}
		case c.sum != nil:
			*c.sum(&r) = from.Uint32()
		default:
			n := from.Intn(6)
			if from.Intn(60) == 0 {
				n = 65530 + from.Intn(8)
			}
			*c.text(&r) = drawText(from, n)
		}
	}
	return r
}

// drawText is n drawn bytes, of which many are those of signatures.
func drawText(from *rand.Rand, n int) string {
	var text strings.Builder
	for range n {
		if from.Intn(3) == 0 {
			text.WriteByte(byte(from.Intn(256)))
		} else {
			text.WriteByte("PK\x01\x02\x03\x04\x05\x06\x07\x08\x00"[from.Intn(11)])
		}
	}
	return text.String()
}

// same calls Put and holds it against the model.
func (k kind[R]) same(t *testing.T, r R) string {
	t.Helper()
	want, e := k.plainPut(r)
	if b, got := k.put(r); string(b) != want || got != e || e != api.OK && b != nil {
		t.Fatalf("Put%s(%.200v) = %.100x, %d, want %.100x, %d", k.name, r, b, got, want, e)
	}
	return want
}

// reads calls Get and holds it against the model.
func (k kind[R]) reads(t *testing.T, data string, at int) (R, int, api.Errno) {
	t.Helper()
	r, p, e := k.plainGet(data, at)
	if s, q, got := k.get([]byte(data), at); s != r || q != p || got != e {
		t.Fatalf("Get%s(%.100q, %d) = %.200v, %d, %d, want %.200v, %d, %d", k.name, data, at, s, q, got, r, p, e)
	}
	return r, p, e
}

// playRecords puts and gets drawn records between drawn bytes, whole and cut short.
func playRecords[R comparable](t *testing.T, k kind[R], seed int64) {
	from := rand.New(rand.NewSource(seed))
	for range 3000 {
		r := k.draw(from)
		text := k.same(t, r)
		if text == "" {
			continue
		}
		ahead, behind := drawText(from, from.Intn(50)), drawText(from, from.Intn(50))
		data := ahead + text + behind
		if s, p, e := k.reads(t, data, len(ahead)); s != r || p != len(ahead+text) || e != api.OK {
			t.Fatalf("Get%s of what was put: %.200v, %d, %d, want %.200v, %d", k.name, s, p, e, r, len(ahead+text))
		}
		k.reads(t, data, from.Intn(len(data)+1))
		k.reads(t, data[:len(ahead)+from.Intn(len(text))], len(ahead))
		if s, p, e := k.reads(t, k.sign+drawText(from, from.Intn(200)), 0); e == api.OK {
			if p < k.fields() || k.same(t, s) == "" {
				t.Fatalf("what was got isn't put: %.200v, %d", s, p)
			}
		}
	}
}

func TestModelRecords(t *testing.T) { // P12.5 to P12.7
	playRecords(t, locals, 125)
	playRecords(t, centrals, 126)
	playRecords(t, ends, 127)
}

func TestModelNames(t *testing.T) { // P12.1
	from := rand.New(rand.NewSource(121))
	units := []string{"a", "b", ".", "..", "/", "é", "\uFFFD", "\U0001F600", "x.y", " ", "~", "a/", "b/c"}
	wrong := []string{"\x80", "\xc3", "\\", "\x00", "\x1f", "\x7f", "\xed\xa0\x80", "\xff", "\xe2\x82", "\xc0\xaf"}
	for range 50000 {
		name := ""
		for range from.Intn(9) {
			name += units[from.Intn(len(units))]
		}
		if from.Intn(4) == 0 {
			cut := from.Intn(len(name) + 1)
			name = name[:cut] + wrong[from.Intn(len(wrong))] + name[cut:]
		}
		if e := record.CheckName(name); e != plainName(name) {
			t.Fatalf("CheckName(%q) = %d", name, e)
		}
	}
}

// plainSplit is SplitExtra by the chapter's words.
func plainSplit(text string) ([]api.Extra, api.Errno) {
	if len(text) > 65535 {
		return nil, api.ErrRecWide
	}
	var fields []api.Extra
	for text != "" {
		if len(text) < 4 {
			return nil, api.ErrRecShort
		}
		n := int(text[2]) + 256*int(text[3])
		if len(text) < 4+n {
			return nil, api.ErrRecShort
		}
		fields = append(fields, api.Extra{Tag: int(text[0]) + 256*int(text[1]), Data: text[4 : 4+n]})
		text = text[4+n:]
	}
	return fields, api.OK
}

// plainJoin is JoinExtra by the chapter's words.
func plainJoin(fields []api.Extra) (string, api.Errno) {
	text := ""
	for _, f := range fields {
		n := len(f.Data)
		if f.Tag < 0 || f.Tag > 65535 || n > 65535 {
			return "", api.ErrRecWide
		}
		text += string([]byte{byte(f.Tag), byte(f.Tag >> 8), byte(n), byte(n >> 8)}) + f.Data
	}
	if len(text) > 65535 {
		return "", api.ErrRecWide
	}
	return text, api.OK
}

func TestModelExtra(t *testing.T) { // P12.8, P12.9
	from := rand.New(rand.NewSource(128))
	for range 5000 {
		var fields []api.Extra
		for range from.Intn(6) {
			f := api.Extra{Tag: from.Intn(65536), Data: drawText(from, from.Intn(20))}
			if from.Intn(40) == 0 {
				f.Tag = []int{-1, 65536, from.Int(), -from.Int()}[from.Intn(4)]
			}
			if from.Intn(40) == 0 {
				f.Data = strings.Repeat("y", 32750+from.Intn(32790))
			}
			fields = append(fields, f)
		}
		text, e := plainJoin(fields)
		joins(t, text, e, fields...)
		if e == api.OK {
			splits(t, text, api.OK, fields...)
		}
		bytes := []byte(text[:from.Intn(len(text)+1)])
		if len(bytes) > 0 && from.Intn(2) == 0 {
			bytes[from.Intn(min(len(bytes), 30))] = byte(from.Intn(5))
		}
		fields, e = plainSplit(string(bytes))
		splits(t, string(bytes), e, fields...)
		if e == api.OK {
			joins(t, string(bytes), api.OK, fields...)
		}
	}
}

func TestModelDescriptors(t *testing.T) { // P12.10, P12.11
	from := rand.New(rand.NewSource(1210))
	words := []uint32{0, 1, 0x08074b50, math.MaxUint32}
	for range 30000 {
		l := api.Local{Sum: words[from.Intn(4)], Packed: int(words[from.Intn(4)]), Size: int(words[from.Intn(4)])}
		bare := ""
		for _, v := range []uint32{l.Sum, uint32(l.Packed), uint32(l.Size)} {
			bare += string([]byte{byte(v), byte(v >> 8), byte(v >> 16), byte(v >> 24)})
		}
		describes(t, l, true, sign+bare, api.OK)
		describes(t, l, false, bare, api.OK)
		data := ""
		for range from.Intn(7) {
			v := words[from.Intn(4)]
			data += string([]byte{byte(v), byte(v >> 8), byte(v >> 16), byte(v >> 24)})
		}
		data += []string{"", bare, sign + bare}[from.Intn(3)]
		data = data[:len(data)-from.Intn(min(len(data), 3)+1)]
		at := from.Intn(len(data) + 1)
		if from.Intn(2) == 0 {
			at -= at % 4
		}
		there := data[at:]
		switch {
		case strings.HasPrefix(there, sign+bare):
			found(t, data, at, l, 16, api.OK)
		case strings.HasPrefix(there, bare):
			found(t, data, at, l, 12, api.OK)
		case len(there) < 12:
			found(t, data, at, l, 0, api.ErrRecShort)
		default:
			found(t, data, at, l, 0, api.ErrRecSig)
		}
	}
}
