package block_test

import (
	"strings"
	"testing"

	"valise/api"
	"valise/bits"
	"valise/block"
)

func TestStoredBlocks(t *testing.T) { // P10.7, bit by bit, from each place within a byte
	for n := range 17 {
		ahead := strings.Repeat("1", n)
		want := "000" + strings.Repeat("0", (16-3-n%8)%8) + figure(2, 16) + figure(65533, 16) + figure(0x80, 8) + figure('b', 8)
		if got := writtenOf(t, ahead, row("xy"), "\x80b", api.KindStored, false); got != want {
			t.Errorf("behind %s: %s, want %s", ahead, got, want)
		}
		if got := writtenOf(t, ahead, row("xy"), "\x80b", api.KindStored, true); got != "1"+want[1:] {
			t.Errorf("behind %s: %s, want 1%s", ahead, got, want[1:])
		}
	}
}

func TestLongestStoredBlock(t *testing.T) { // P10.7
	raw := strings.Repeat("0123456789abcde", 4369)
	text := writtenOf(t, "", saying(65535), raw, api.KindStored, true)
	if text[:40] != "10000000"+strings.Repeat("1", 16)+strings.Repeat("0", 16) || len(text) != 40+8*65535 {
		t.Errorf("%s, %d bits", text[:40], len(text))
	}
	if string(put(text[40:]).Bytes()) != raw {
		t.Error("the bytes are not raw's")
	}
}

func TestFixedBlocks(t *testing.T) { // P10.7: words with their first bit first, further bits with their lowest
	word := func(v, n int) string { return reversed(figure(v, n)) }
	for _, c := range []struct {
		tokens []api.Token
		want   []string
	}{
		{row("\x00\x8F\x90\xFF"), []string{"00110000", "10111111", "110010000", "111111111"}},
		{row(again(3, 1)), []string{word(1, 7), word(0, 5)}},
		{row(again(12, 6)), []string{word(9, 7), "1", word(4, 5), "1"}},
		{row(again(33, 11)), []string{word(16, 7), "01", word(6, 5), "01"}},
		{row(again(114, 32768)), []string{word(23, 7), "1111", word(29, 5), strings.Repeat("1", 13)}},
		{row(again(116, 24578)), []string{"11000000", "1000", word(29, 5), "1" + strings.Repeat("0", 12)}},
		{row(again(257, 24576)), []string{"11000100", "01111", word(28, 5), strings.Repeat("1", 13)}},
		{row(again(258, 2)), []string{"11000101", word(1, 5)}},
		{row("a", again(9, 1)), []string{"10010001", word(7, 7), word(0, 5)}},
	} {
		want := "110" + strings.Join(c.want, "") + "0000000"
		if got := writtenOf(t, "01", c.tokens, strings.Repeat("x", size(c.tokens)), api.KindFixed, true); got != want {
			t.Errorf("%v: %s, want %s", c.tokens, got, want)
		}
	}
}

func TestDynamicBlock(t *testing.T) { // P10.7: the sums of TestDynamicSizes, bit by bit
	want := "001" + // not the last one; the kind 2
		figure(0, 5) + figure(0, 5) + figure(14, 4) +
		figure(0, 3) + figure(0, 3) + figure(1, 3) + figure(3, 3) + figure(0, 33) + figure(2, 3) + figure(0, 3) + figure(3, 3) + // 16 17 18 0 .. 2 14 1
		"0" + figure(97-11, 7) + "111" + "10" + "0" + figure(138-11, 7) + "0" + figure(19-11, 7) + "10" + "110" +
		"0" + "0" + "0" + "10" + "11" // a a a b, the end
	if got := writtenOf(t, "1011", row("aaab"), "zzzz", api.KindDynamic, false); got != want {
		t.Errorf("%s, want %s", got, want)
	}
}

func TestWriteOrder(t *testing.T) { // P10.7: of two errors the first
	great := make([]byte, api.MaxCapacity+1)
	for _, kind := range []int{-1, 0, 1, 2, 3} {
		for _, tokens := range [][]api.Token{nil, row("a"), row(again(2, 1)), saying(65536)} {
			writeFails(t, tokens, great, kind, api.ErrArg)
		}
	}
	for _, kind := range []int{-1 << 63, -1, 3, 4, 1 << 32, 1<<63 - 1} {
		for _, tokens := range [][]api.Token{nil, row("a"), row(again(2, 1)), saying(65536)} {
			writeFails(t, tokens, nil, kind, api.ErrBlockKind)
			writeFails(t, tokens, great[1:], kind, api.ErrBlockKind)
		}
	}
	for kind := range 3 {
		writeFails(t, row(saying(65536), again(2, 1)), nil, kind, api.ErrBlockToken)
		writeFails(t, row(again(2, 1), saying(65536)), great[1:], kind, api.ErrBlockToken)
		writeFails(t, saying(65536), great[1:], kind, api.ErrBlockLong)
		writeFails(t, saying(65535), great[1:], kind, api.ErrBlockRaw)
	}
}

func TestRawOfAnotherSize(t *testing.T) { // P10.7: whatever the kind
	for _, tokens := range [][]api.Token{nil, row("a"), ten(), saying(258), saying(65535)} {
		n := size(tokens)
		for _, m := range []int{0, n - 1, n + 1, len(tokens), 65535, 65536} {
			if m < 0 || m == n {
				continue
			}
			for kind := range 3 {
				writeFails(t, tokens, make([]byte, m), kind, api.ErrBlockRaw)
			}
		}
	}
}

func TestRawDoesNotCount(t *testing.T) { // P10.7: what the tokens say is not held against it
	for _, kind := range []int{api.KindFixed, api.KindDynamic} {
		if a, b := writtenOf(t, "", ten(), "aaaaaaaaaa", kind, true), writtenOf(t, "", ten(), "0123456789", kind, true); a != b {
			t.Errorf("the kind %d: %s and %s", kind, a, b)
		}
	}
	if text := writtenOf(t, "", ten(), "0123456789", api.KindStored, true); string(put(text[40:]).Bytes()) != "0123456789" {
		t.Errorf("stored: %s", text)
	}
}

func TestBehindOneAnother(t *testing.T) { // P10.7: each behind the bits that are there, and what comes behind it too
	w, want := bits.NewWriter(), ""
	for i := range 30 {
		tokens, kind := [][]api.Token{nil, ten(), row("hello")}[i/3%3], i%3
		want += writtenOf(t, want, tokens, strings.Repeat("x", size(tokens)), kind, i == 29)
		if e := block.Write(w, tokens, []byte(strings.Repeat("x", size(tokens))), kind, i == 29); e != api.OK || held(w) != want {
			t.Fatalf("the block %d: %d, %s, want %s", i, e, held(w), want)
		}
	}
	w.Put(1, 1)
	if held(w) != want+"1" {
		t.Errorf("a bit behind them: %s", held(w))
	}
}

// left is a writer that has room for n more bits.
func left(n int) *bits.Writer {
	w := bits.NewWriter()
	w.Raw(make([]byte, api.MaxPacked-(n+7)/8))
	w.Put(0, (8-n%8)%8)
	return w
}

func TestNoRoom(t *testing.T) { // P10.7: the writer's own error, behind all others
	s := measured(t, ten(), 5)
	for kind, n := range []int{s.Stored, s.Fixed, s.Dynamic} { // a writer's room ends at a border, as a stored block does: from 5 bits behind one it needs the fewest
		w, raw := left(n), make([]byte, 10)
		if e := block.Write(w, ten(), raw, kind, true); e != api.OK || w.Len() != 8*api.MaxPacked {
			t.Errorf("the kind %d with just the room = %d, %d bits", kind, e, w.Len())
		}
		w = left(n - 1)
		if e := block.Write(w, ten(), raw[1:], kind, true); e != api.ErrBlockRaw {
			t.Errorf("the kind %d of what may not be = %d", kind, e)
		}
		if e := block.Write(w, ten(), raw, kind, true); e != api.ErrArg {
			t.Errorf("the kind %d with a bit too few = %d", kind, e)
		}
	}
}
