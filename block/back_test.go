package block_test

import (
	"bytes"
	"compress/flate"
	"io"
	"math/rand"
	"strings"
	"testing"

	"valise/api"
	"valise/bits"
	"valise/block"
	"valise/inflate"
	"valise/match"
)

// texts are plain texts that one block can hold.
func texts() []string {
	r := rand.New(rand.NewSource(103))
	letters := make([]byte, 30000)
	for i := range letters {
		letters[i] = byte('a' + r.Intn(1+r.Intn(26)))
	}
	return []string{
		"", "a", "aaaa", strings.Repeat("a", 65535), "hello, hello, hello",
		string(letters), drawnBytes(r, 1000), drawnBytes(r, 65535),
		string(letters[:9000]) + drawnBytes(r, 32768-9000) + string(letters[:9000]), // copies from as far back as may be
	}
}

// tokensOf is a text's tokens, none of them with the chain 0.
func tokensOf(t *testing.T, text string, chain int) []api.Token {
	t.Helper()
	tokens, e := match.Tokens([]byte(text), api.Effort{Window: api.Window, Chain: chain, Lazy: true})
	if e != api.OK {
		t.Fatalf("Tokens of %d bytes = %d", len(text), e)
	}
	return tokens
}

// unpacked asks for a text by this program's inflate and by the library's.
func unpacked(t *testing.T, packed []byte, want string) {
	t.Helper()
	if plain, e := inflate.Exact(packed, len(want)); string(plain) != want || e != api.OK {
		t.Errorf("%d bytes unpack to %q, %d, want %q", len(packed), some(plain), e, some([]byte(want)))
	}
	if plain, err := io.ReadAll(flate.NewReader(bytes.NewReader(packed))); string(plain) != want || err != nil {
		t.Errorf("%d bytes unpack by the library to %q, %v, want %q", len(packed), some(plain), err, some([]byte(want)))
	}
}

func TestItComesBack(t *testing.T) { // P10.7: a block of each kind is read as what it was made of
	for _, text := range texts() {
		for _, chain := range []int{0, 16} {
			tokens := tokensOf(t, text, chain)
			for kind := range 3 {
				w := bits.NewWriter()
				if e := block.Write(w, tokens, []byte(text), kind, true); e != api.OK {
					t.Fatalf("Write of %d bytes, the kind %d = %d", len(text), kind, e)
				}
				unpacked(t, w.Bytes(), text)
			}
		}
	}
}

func TestRowOfBlocks(t *testing.T) { // P10.5, P10.7, P10.8: block behind block, each where the one ahead ended
	w, plain := bits.NewWriter(), ""
	all := texts()
	for i := range 2 * len(all) {
		text := all[i%len(all)]
		tokens := tokensOf(t, text, 8)
		at := w.Len()
		s := measured(t, tokens, at)
		kind := i % 3
		if i >= len(all) {
			kind = block.Choose(s)
		}
		e := block.Write(w, tokens, []byte(text), kind, i == 2*len(all)-1)
		if e != api.OK || w.Len()-at != []int{s.Stored, s.Fixed, s.Dynamic}[kind] {
			t.Fatalf("the block %d of the kind %d: %d, %d bits, measured are %v", i, kind, e, w.Len()-at, s)
		}
		plain += text
	}
	unpacked(t, w.Bytes(), plain)
	pieces, e := inflate.Walk(w.Bytes(), len(plain))
	if e != api.OK || len(pieces) != 2*len(all) {
		t.Errorf("Walk = %d blocks, %d", len(pieces), e)
	}
}
