package inflate_test

import (
	"bytes"
	"math/rand"
	"slices"
	"strings"
	"sync"
	"testing"

	"valise/api"
	"valise/inflate"
)

// agree asks the four calls of one text, and holds what they answer against each other (P8.2 to P8.5). It tells what Inflate answers.
func agree(t *testing.T, data []byte, limit int) ([]byte, int, api.Errno) {
	t.Helper()
	out, used, e := inflate.Inflate(data, limit)
	pieces, walkE := inflate.Walk(data, limit)
	if e != api.OK && (out != nil || used != 0 || pieces != nil) || walkE != e {
		t.Errorf("of % x within %d: Inflate %d bytes, %d bits, %d; Walk %v, %d", some(data), limit, len(out), used, e, pieces, walkE)
	}
	var given []api.Piece
	var joined []byte
	for p, part := range inflate.Blocks(data, limit) {
		if len(part) != p.End-p.Start {
			t.Errorf("the block %v has %d bytes", p, len(part))
		}
		given, joined = append(given, p), append(joined, part...)
	}
	follow(t, given)
	if e == api.OK && (!slices.Equal(given, pieces) || !bytes.Equal(joined, out) || !given[len(given)-1].Final || given[len(given)-1].To != used) {
		t.Errorf("of % x within %d: Blocks %v, %q; Walk %v, Inflate %q, %d", some(data), limit, given, some(joined), pieces, some(out), used)
	}
	if e != api.OK && slices.ContainsFunc(given, func(p api.Piece) bool { return p.Final }) {
		t.Errorf("of % x within %d: %d, and yet the last block is given: %v", some(data), limit, e, given)
	}
	sameExact(t, data, limit, out, used, e)
	return out, used, e
}

// follow asks that each block begins where the one ahead of it ends, and that none follows the last one.
func follow(t *testing.T, pieces []api.Piece) {
	t.Helper()
	at := api.Piece{}
	for _, p := range pieces {
		if p.From != at.To || p.Start != at.End || p.To < p.From+3 || p.End < p.Start || p.Kind < 0 || p.Kind > 2 || at.Final {
			t.Errorf("%v stands behind %v", p, at)
		}
		at = p
	}
}

// sameExact holds Exact against what Inflate answers.
func sameExact(t *testing.T, data []byte, limit int, out []byte, used int, e api.Errno) {
	t.Helper()
	if e == api.OK && len(out) < limit {
		e = api.ErrInfSize
	} else if e == api.OK && used <= 8*(len(data)-1) {
		e = api.ErrInfRest
	}
	if e != api.OK {
		out = nil
	}
	if got, f := inflate.Exact(data, limit); f != e || !bytes.Equal(got, out) {
		t.Errorf("Exact(% x, %d) = %q, %d, want %q, %d", some(data), limit, some(got), f, some(out), e)
	}
}

// some is the beginning of a list, to be shown.
func some(list []byte) []byte { return list[:min(len(list), 200)] }

// behind is what may stand behind a text: it is not looked at.
func behind() []string {
	return []string{"", "0", "1", "0000000", "1111111", strings.Repeat("0", 40), strings.Repeat("1", 40), strings.Repeat("011", 30)}
}

// inflates asks for the text that these bits unpack to, whatever stands behind them, and within each limit that it may have.
func inflates(t *testing.T, text, want string) {
	t.Helper()
	for _, rest := range behind() {
		for _, limit := range []int{len(want), len(want) + 1, api.MaxCapacity} {
			out, used, e := agree(t, bytesOf(text+rest), limit)
			if string(out) != want || used != len(text) || e != api.OK {
				t.Errorf("Inflate(%s and %q, %d) = %q, %d, %d, want %q, %d", brief(text), rest, limit, some(out), used, e, some([]byte(want)), len(text))
			}
		}
	}
	for _, limit := range []int{0, len(want) / 2, len(want) - 1} {
		if limit < len(want) && limit >= 0 {
			answersError(t, bytesOf(text), limit, api.ErrInfLimit)
		}
	}
}

// fails asks for the error of these bits (without a stored block): of them alone, and, where it isn't that they end, of the same with others behind them.
func fails(t *testing.T, text string, limit int, want api.Errno) {
	t.Helper()
	for _, rest := range behind() {
		if out, used, e := agree(t, alone(text+rest), limit); out != nil || used != 0 || e != want {
			t.Errorf("Inflate(%s and %q, %d) = %q, %d, %d, want %d", brief(text), rest, limit, some(out), used, e, want)
		}
		if want == api.ErrInfEnd || want == api.ErrHeadEnd {
			break // more bits would be something else
		}
	}
}

// endsWithin asks for the error of all the beginnings of these bits from the place on.
func endsWithin(t *testing.T, text string, from, limit int, want api.Errno) {
	t.Helper()
	for n := from; n < len(text); n++ {
		fails(t, text[:n], limit, want)
	}
}

func brief(text string) string { return text[:min(len(text), 300)] }

func TestArguments(t *testing.T) { // P8.1, P8.3, P8.4, P0.5: ahead of all else
	long := make([]byte, api.MaxPacked+1)
	copy(long, []byte{3, 0})
	for _, c := range []struct {
		data  []byte
		limit int
	}{
		{[]byte{3, 0}, -1}, {[]byte{3, 0}, api.MaxCapacity + 1}, {[]byte{3, 0}, -1 << 63}, {[]byte{3, 0}, 1<<63 - 1}, {nil, -1}, {[]byte{7}, -1}, {[]byte{7}, api.MaxCapacity + 1}, {long, 0}, {long, -1}, {long, 5},
	} {
		if _, _, e := agree(t, c.data, c.limit); e != api.ErrArg {
			t.Errorf("of %d bytes within %d: %d", len(c.data), c.limit, e)
		}
		for p := range inflate.Blocks(c.data, c.limit) {
			t.Errorf("of %d bytes within %d: the block %v", len(c.data), c.limit, p)
		}
	}
	if out, used, e := inflate.Inflate(long[:api.MaxPacked], 0); out != nil || used != 10 || e != api.OK {
		t.Errorf("of as many bytes as may be: %q, %d, %d", some(out), used, e)
	}
	if _, e := inflate.Exact(long[:api.MaxPacked], 0); e != api.ErrInfRest {
		t.Errorf("of as many bytes as may be: %d", e)
	}
	if out, used, e := inflate.Inflate([]byte{3, 0}, api.MaxCapacity); len(out) != 0 || used != 10 || e != api.OK {
		t.Errorf("within the greatest limit: %q, %d, %d", out, used, e)
	}
}

func TestFirstBits(t *testing.T) { // chapter 8, 'What goes wrong'
	for _, text := range []string{"", "0", "1", "00", "01", "10", "11"} {
		fails(t, text, 0, api.ErrInfEnd)
		fails(t, text, 9, api.ErrInfEnd)
	}
	fails(t, "011", 0, api.ErrInfKind)
	fails(t, "111", 9, api.ErrInfKind)
	fails(t, fixed(false)+"011", 0, api.ErrInfKind)
	fails(t, fixed(false, literals("ab"))+"111", 2, api.ErrInfKind)
}

func TestTheLimit(t *testing.T) { // P8.1: a text of just as many bytes is read, and so is a block without bytes there
	full := fixed(false, literals("abc"))
	inflates(t, full+fixed(true), "abc")
	inflates(t, full+dynamic(true, end(), []int{1}, "0"), "abc")
	inflates(t, stored(full, true, ""), "abc")
	inflates(t, stored(full, false, "")+fixed(false)+fixed(true), "abc")
	fails(t, full+fixed(true, literals("d")), 3, api.ErrInfLimit)
	fails(t, full+fixed(true, again(3, 1)), 5, api.ErrInfLimit)
	inflates(t, full+fixed(true, again(3, 1)), "abcccc")
}

func TestNothingBehindIsRead(t *testing.T) { // P8.1
	inflates(t, fixed(true), "")
	inflates(t, fixed(true, literals("a")), "a")
	inflates(t, stored("", true, "hi"), "hi")
	inflates(t, dynamic(true, end(), nil, "0"), "")
	for k := range 9 { // the text ends at each place of a byte
		inflates(t, fixed(true, literals(strings.Repeat("\xC8", k))), strings.Repeat("\xC8", k))
	}
}

func TestEmptyTextAtEveryPlace(t *testing.T) { // P8.1
	for n := range 8 {
		inflates(t, empty(n)+fixed(true), "")
		inflates(t, empty(n)+dynamic(true, end(), []int{1, 1}, "0"), "")
		inflates(t, stored(empty(n), true, ""), "")
		inflates(t, stored(empty(n), true, "xyz"), "xyz")
	}
}

// TestGreatest: a text of as many bytes as may be, and one more.
func TestGreatest(t *testing.T) { // P8.1, P0.1
	text := fixed(false, literals("a"), strings.Repeat(again(258, 1), 65027), again(249, 1)) // 1 + 65027 * 258 + 249 = MaxCapacity
	out, used, e := inflate.Inflate(bytesOf(text+fixed(true)), api.MaxCapacity)
	if e != api.OK || len(out) != api.MaxCapacity || used != len(text)+10 || bytes.Count(out, []byte("a")) != len(out) {
		t.Errorf("%d bytes, %d bits, %d", len(out), used, e)
	}
	for _, last := range []string{fixed(true, literals("a")), fixed(true, again(3, 1)), stored(text, true, "a")[len(text):]} {
		if _, _, e := inflate.Inflate(bytesOf(text+last), api.MaxCapacity); e != api.ErrInfLimit {
			t.Errorf("of one byte more: %d", e)
		}
	}
}

// TestManyBlocks: a fixed block costs no code of its own; a text has millions of them.
func TestManyBlocks(t *testing.T) { // P8.3, P0.1
	const n = 1 << 18
	data := bytesOf(strings.Repeat(fixed(false), n) + fixed(true))
	pieces, e := inflate.Walk(data, 0)
	if e != api.OK || len(pieces) != n+1 {
		t.Fatalf("%d blocks, %d", len(pieces), e)
	}
	for i, p := range pieces {
		if (p != api.Piece{Kind: 1, Final: i == n, From: 10 * i, To: 10*i + 10}) {
			t.Fatalf("the block %d is %v", i, p)
		}
	}
}

func TestNilIsEmpty(t *testing.T) { // P0.2
	for _, data := range [][]byte{nil, {}} {
		if _, _, e := agree(t, data, 0); e != api.ErrInfEnd {
			t.Errorf("of nothing: %d", e)
		}
		if out, e := inflate.Exact(data, 0); out != nil || e != api.ErrInfEnd {
			t.Errorf("of nothing: %q, %d", out, e)
		}
		for p := range inflate.Blocks(data, 0) {
			t.Errorf("of nothing the block %v", p)
		}
	}
}

// mixed is a text with blocks of each kind, and what it unpacks to.
func mixed() ([]byte, string) {
	text := fixed(false, literals("abc"), again(5, 2))
	text = stored(text, false, "stored bytes")
	text += dynamic(false, lits(120, 2, 121, 2, 256, 2, 257, 2), []int{1, 1}, "00", "01", "11", "1", "10")
	text = stored(text, false, "")
	text += fixed(true, again(258, 22), literals("\x00\xFF"))
	out := "abcbcbcb" + "stored bytes" + "xyxyx"
	for len(out) < 25+258 {
		out += out[len(out)-22:][:1]
	}
	return bytesOf(text), out + "\x00\xFF"
}

func TestMixed(t *testing.T) { // P8.1 to P8.5
	data, want := mixed()
	out, _, e := agree(t, data, len(want))
	if string(out) != want || e != api.OK {
		t.Errorf("%q, %d, want %q", out, e, want)
	}
	for limit := range len(want) {
		if _, _, e := agree(t, data, limit); e != api.ErrInfLimit {
			t.Errorf("within %d: %d", limit, e)
		}
	}
}

// spoil writes over a list, and over the room behind its end.
func spoil(list []byte) {
	list = list[:cap(list)]
	for i := range list {
		list[i] ^= 0x5A
	}
}

func TestArgumentsStay(t *testing.T) { // P0.3: also what lies behind a list's end
	data, want := mixed()
	all := slices.Concat(data, bytes.Repeat([]byte{0x77}, 300))
	before := bytes.Clone(all)
	for _, limit := range []int{len(want), len(want) - 1, 9, -1} {
		for _, n := range []int{len(data), len(data) - 1, 9, 0} {
			agree(t, all[:n], limit)
		}
	}
	if !bytes.Equal(all, before) {
		t.Errorf("% x has become % x", before, all)
	}
}

func TestAnswersAreNew(t *testing.T) { // P0.3
	data, want := mixed()
	kept := bytes.Clone(data)
	for range 3 {
		a, _, _ := inflate.Inflate(data, len(want))
		b, _, _ := inflate.Inflate(data, len(want))
		c, _ := inflate.Exact(data, len(want))
		spoil(a)
		if string(b) != want || string(c) != want || !bytes.Equal(data, kept) {
			t.Error("an answer shares memory")
		}
		spoil(data)
		if string(b) != want || string(c) != want {
			t.Error("an answer shares memory with its argument")
		}
		copy(data, kept)
		p, _ := inflate.Walk(data, len(want))
		q, _ := inflate.Walk(data, len(want))
		clear(p[:cap(p)])
		if q[0].To == 0 || q[len(q)-1].To == 0 {
			t.Error("two lists of blocks share memory")
		}
	}
}

func TestSideBySide(t *testing.T) { // P0.7
	data, want := mixed()
	blocks := inflate.Blocks(data, len(want))
	var group sync.WaitGroup
	for i := range 16 {
		group.Go(func() {
			r := rand.New(rand.NewSource(int64(i)))
			for range 50 {
				if r.Intn(2) == 0 {
					if out, _, e := inflate.Inflate(data, len(want)); string(out) != want || e != api.OK {
						t.Errorf("%q, %d", out, e)
					}
					continue
				}
				var out []byte
				for _, part := range blocks {
					out = append(out, part...)
					spoil(part)
				}
				if string(out) != want {
					t.Errorf("%q", out)
				}
			}
		})
	}
	group.Wait()
}
