package wrap_test

import (
	"strings"
	"testing"

	"valise/api"
	"valise/inflate"
	"valise/wrap"
)

// zlibHeads has the head of each level.
func zlibHeads() []string {
	return []string{"\x78\x01", "\x78\x01", "\x78\x5e", "\x78\x5e", "\x78\x5e", "\x78\x5e", "\x78\x9c", "\x78\xda", "\x78\xda", "\x78\xda"}
}

func TestPutZlibLevels(t *testing.T) { // P23.3
	for _, plain := range []string{"", "a", "aaaa", "\xff\x00\xff", filler(260, 3000), strings.Repeat("a text again, ", 7000)} {
		for level, head := range zlibHeads() {
			putZlib(t, plain, level, zlibbed(head, packed(plain, level), plain))
		}
		for _, level := range []int{-1, 10, 11, 1 << 40, -1 << 63} {
			refuseZlib(t, []byte(plain), level, api.ErrDeflateLevel)
		}
	}
}

func TestPutZlibGreatest(t *testing.T) { // P23.3: as many bytes as may be, and one more, which is told ahead of the level
	plain := make([]byte, api.MaxCapacity+1)
	putZlib(t, string(plain[1:]), 0, zlibbed("\x78\x01", packed(string(plain[1:]), 0), string(plain[1:])))
	refuseZlib(t, plain[1:], 10, api.ErrDeflateLevel)
	for _, level := range []int{-1, 0, 1, 9, 10} {
		refuseZlib(t, plain, level, api.ErrArg)
	}
}

func TestGetZlibHeads(t *testing.T) { // P23.4: every first and second byte
	text := packed("some text, some text", 6)
	for first := range 256 {
		for second := range 256 {
			data := zlibbed(string([]byte{byte(first), byte(second)}), text, "some text, some text")
			switch {
			case first%16 != 8 || first/16 > 7 || (256*first+second)%31 != 0:
				noZlib(t, data, 20, api.ErrWrapHead)
			case second/32%2 == 1:
				noZlib(t, data, 20, api.ErrWrapField)
			default:
				getZlib(t, data, 20, "some text, some text")
			}
		}
	}
}

func TestGetZlibOrder(t *testing.T) { // P23.4: of several errors the first one in the chapter's order
	long := strings.Repeat("\x00", api.MaxPacked+1)
	for _, limit := range []int{-1, 0, 9, api.MaxCapacity + 1} {
		noZlib(t, long, limit, api.ErrArg)
	}
	for _, data := range []string{"", "\x00", "\x00\x00", "\x78\xbb", zlibbed("\x78\x9c", "\x4b\x04\x00", "a")} {
		for _, limit := range []int{-1, -1 << 63, api.MaxCapacity + 1, 1<<63 - 1} {
			noZlib(t, data, limit, api.ErrArg)
		}
	}
	noZlib(t, long[1:], 9, api.ErrWrapHead)
	noZlib(t, "", 9, api.ErrWrapShort)
	for v := range 256 {
		noZlib(t, string([]byte{byte(v)}), 9, api.ErrWrapShort)
	}
	noZlib(t, "\x79\xbb", 9, api.ErrWrapHead)
	noZlib(t, "\x78\xba\x07", 9, api.ErrWrapHead)
	noZlib(t, "\x78\xbb", 9, api.ErrWrapField)
	noZlib(t, "\x78\xbb\x07", 9, api.ErrWrapField)
	noZlib(t, "\x78\x9c\x07", 9, api.ErrInfKind)
	noZlib(t, "\x78\x9c\x4b\x04\x00\x00", 0, api.ErrInfLimit)
	noZlib(t, "\x78\x9c\x4b\x04\x00\x99\x99\x99", 1, api.ErrWrapShort)
	noZlib(t, "\x78\x9c\x4b\x04\x00\x99\x99\x99\x99", 1, api.ErrWrapSum)
	noZlib(t, "\x78\x9c\x4b\x04\x00\x99\x99\x99\x99\x00", 1, api.ErrWrapSum)
	noZlib(t, "\x78\x9c\x4b\x04\x00\x00\x62\x00\x62\x00", 1, api.ErrInfRest)
}

func TestGetZlibNotLookedAt(t *testing.T) { // P23.4: the window, the hint, and the bits that are left in the last byte
	far := strings.Repeat("x", 32768) + filler(261, 300)
	text := packed(far+"again"+far, 9)
	for window := range 8 {
		for hint := range 4 {
			first, second := window*16+8, hint*64
			second += 30 - (first*256+second+30)%31
			getZlib(t, zlibbed(string([]byte{byte(first), byte(second)}), text, far+"again"+far), len(far)*2+5, far+"again"+far)
		}
	}
	for left := range 64 { // the text a takes two bits of its third byte
		getZlib(t, zlibbed("\x78\x9c", "\x4b\x04"+string([]byte{byte(left * 4)}), "a"), 1, "a")
	}
}

func TestGetZlibLimit(t *testing.T) { // P23.4: a text of just the limit
	for _, plain := range []string{"", "a", "aaaa", filler(262, 500)} {
		for level, head := range zlibHeads() {
			data := zlibbed(head, packed(plain, level), plain)
			for _, limit := range []int{len(plain), len(plain) + 1, api.MaxCapacity} {
				getZlib(t, data, limit, plain)
			}
			if plain != "" {
				noZlib(t, data, len(plain)-1, api.ErrInfLimit)
				noZlib(t, data, 0, api.ErrInfLimit)
			}
		}
	}
}

func TestGetZlibBroken(t *testing.T) { // P23.4: the error is that of inflate.Inflate of all that stands behind the head
	for _, text := range brokenTexts() {
		for _, behind := range []string{"", "\x00", filler(263, 20)} {
			_, _, e := inflate.Inflate([]byte(text+behind), 70000)
			if e == api.OK {
				t.Fatalf("% x is not broken", some([]byte(text)))
			}
			noZlib(t, "\x78\x9c"+text+behind, 70000, e)
		}
	}
}

func TestZlibPrefixes(t *testing.T) { // P23.8: no first part is taken
	for _, plain := range []string{"", "a", filler(264, 400)} {
		for level := range 10 {
			whole, _ := wrap.PutZlib([]byte(plain), level)
			for n := range whole {
				out, e := wrap.GetZlib(whole[:n], len(plain))
				if short := e == api.ErrWrapShort || e == api.ErrInfEnd || e == api.ErrHeadEnd; out != nil || !short {
					t.Errorf("level %d, %d of %d bytes: %q, %d", level, n, len(whole), some(out), e)
				}
			}
		}
	}
}

func TestZlibTurned(t *testing.T) { // P23.8: each bit of the sum, and at the level 0 each other byte in the text
	plain := filler(265, 60)
	for level := range 10 {
		whole, _ := wrap.PutZlib([]byte(plain), level)
		for bit := range 32 {
			other := []byte(string(whole))
			other[len(other)-1-bit/8] ^= 1 << (bit % 8)
			noZlib(t, string(other), len(plain), api.ErrWrapSum)
		}
	}
	whole, _ := wrap.PutZlib([]byte(plain), 0)
	for at := range plain {
		for by := 1; by < 256; by++ {
			other := []byte(string(whole))
			other[7+at] ^= byte(by)
			noZlib(t, string(other), len(plain), api.ErrWrapSum)
		}
	}
}
