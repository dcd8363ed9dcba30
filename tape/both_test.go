package tape_test

import (
	"math/rand"
	"testing"

	"valise/api"
	"valise/tape"
)

func TestEachByte(t *testing.T) { // P24.5: each byte of a header as each other one
	from := rand.New(rand.NewSource(2405))
	for _, f := range []api.File{a(), {Name: "d/", Kind: 5}, {Name: "l", Kind: 2, Link: "to", User: "me"}, drawFile(from), drawFile(from)} {
		out, _ := tape.Put([]api.File{f})
		for at := range 512 {
			if at >= 148 && at < 156 {
				continue
			}
			was := out[at]
			for by := 1; by < 256; by++ {
				out[at] = was + byte(by)
				if files, e := tape.Get(out); files != nil || e != api.ErrTapeSum {
					t.Fatalf("the byte %d as %d: %s, %d", at, out[at], brief(files...), e)
				}
			}
			out[at] = was
		}
	}
}

func TestEachByteOfMany(t *testing.T) { // P24.5: of each header of a tape
	data, files := three()
	out := []byte(data)
	place := 0
	for _, f := range files {
		for at := range 512 {
			was := out[place+at]
			out[place+at] ^= 1
			if got, e := tape.Get(out); (at < 148 || at >= 156) && (got != nil || e != api.ErrTapeSum) {
				t.Fatalf("the byte %d: %s, %d", place+at, brief(got...), e)
			}
			out[place+at] = was
		}
		place += 512 + len(whole(string(f.Data)))
	}
	get(t, string(out), files...)
}

func TestBothWays(t *testing.T) { // P24.4: edges of what is sound, all on one tape, with anything behind it
	files := edges()[true]
	out, e := tape.Put(files)
	if e != api.OK {
		t.Fatalf("Put: %d", e)
	}
	get(t, string(out), files...)
	get(t, string(out)+string(out), files...)
	get(t, string(out)+"x", files...)
	again(t, string(out), files)
}

func TestShorter(t *testing.T) { // P24.4: Put of what Get answers is no longer, though it may be other bytes
	h := ofA()
	h.mode, h.owner, h.size, h.kind, h.major, h.room = "644 \x00   ", "        ", "2"+zeros(11), "\x00", "anything", "is the room."
	h.prefix = padded("p", 155)
	f := a()
	f.Name = "p/a"
	data := tapeOf(h) + "behind"
	get(t, data, f)
	again(t, data, []api.File{f})
	short := ofA()
	short.name = padded("p/a", 100)
	put(t, tapeOf(short), f)
}
