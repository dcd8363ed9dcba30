package salvage_test

import (
	"strings"
	"testing"

	"valise/api"
	"valise/layout"
	"valise/salvage"
)

// known is the archive of chapter 13's example 2, byte for byte, with the sum of "hi" in its place.
const known = "PK\x03\x04\x0a\x00\x00\x00\x00\x00\x00\x00\x21\x00\xac\x2a\x93\xd8\x02\x00\x00\x00\x02\x00\x00\x00\x01\x00\x00\x00a" + "hi" +
	"PK\x01\x02\x14\x00\x0a\x00\x00\x00\x00\x00\x00\x00\x21\x00\xac\x2a\x93\xd8\x02\x00\x00\x00\x02\x00\x00\x00\x01\x00\x00\x00\x00\x00\x00\x00\x00\x00\x00\x00\x00\x00\x00\x00\x00\x00a" +
	"PK\x05\x06\x00\x00\x00\x00\x01\x00\x01\x00\x2f\x00\x00\x00\x21\x00\x00\x00\x00\x00"

// hi is the entry in it.
func hi() api.Entry {
	l := api.Local{Need: 10, Date: 33, Sum: 0xd8932aac, Packed: 2, Size: 2, Name: "a"}
	return api.Entry{Central: api.Central{Local: l, Made: 20}, From: 0, Data: 31, To: 33}
}

func TestExampleNothing(t *testing.T) { // example 1
	finds(t, "")
	rebuilds(t, "", none, api.OK)
}

func TestExampleCut(t *testing.T) { // example 2
	finds(t, known, hi())
	finds(t, known[:33], hi())
	finds(t, known[:32])
	rebuilds(t, known[:33], known, api.OK)
	rebuilds(t, known, known, api.OK)
	rebuilds(t, known[:32], none, api.OK)
	finds(t, strings.Replace(known, "hi", "ha", 1))
}

func TestExampleTwice(t *testing.T) { // example 3
	first, second := stored("a", "hi"), stored("a", "other")
	file := laid(first) + laid(second)
	finds(t, file, entry(first, 0, 0), entry(second, 33, 0))
	want, _ := layout.Render([]api.Item{second}, "")
	rebuilds(t, file, string(want), api.OK)
}

func TestExampleAhead(t *testing.T) { // example 4
	x := hi()
	x.At, x.From, x.Data, x.To = 7, 7, 38, 40
	finds(t, "PK\x01\x02PK\x03"+known[:33], x)
	rebuilds(t, "seven.."+known[:33], known, api.OK)
}

func TestExampleLate(t *testing.T) { // example 5
	finds(t, late(stored("a", "hi"), true))
	finds(t, late(stored("a", ""), true))
	head := "PK\x03\x04\x14\x00\x08\x00\x08\x00\x00\x00\x21\x00" + strings.Repeat("\x00", 12) + "\x01\x00\x00\x00e"
	numbers := "\x00\x00\x00\x00\x02\x00\x00\x00\x00\x00\x00\x00"
	want, _ := layout.Render([]api.Item{packedAs("e", "", "\x03\x00")}, "")
	for _, descriptor := range []string{"PK\x07\x08" + numbers, numbers} {
		file := head + "\x03\x00" + descriptor
		finds(t, file, entry(marked(packedAs("e", "", "\x03\x00")), 0, len(descriptor)))
		rebuilds(t, file, string(want), api.OK)
	}
	if string(want[:8]) != "PK\x03\x04\x14\x00\x00\x00" || string(want[14:26]) != numbers {
		t.Errorf("the local header that is laid down: % x", want[:30])
	}
	finds(t, head+"\x03\x00")
	finds(t, head+"\x03\x00"+numbers[:11])
}

func TestExampleReadme(t *testing.T) { // what README.md says
	items := []api.Item{stored("a", "hi"), stored("b", "bye")}
	file, _ := layout.Render(items, "")
	a, _ := layout.Parse(file)
	lost := file[:a.DirAt]
	if _, e := layout.Parse(lost); e != api.ErrLayEnd {
		t.Errorf("Parse = %d", e)
	}
	found, e := salvage.Scan(lost)
	if e != api.OK || namesOf(found) != "a b " || found[1].Data != 64 {
		t.Errorf("Scan = %s, %d", brief(found), e)
	}
	rebuilds(t, string(lost), string(file), api.OK)
	again, e := salvage.Rebuild(lost[:66])
	if b, f := layout.Parse(again); e != api.OK || f != api.OK || namesOf(b.Entries) != "a " {
		t.Errorf("Rebuild of a part: %d, %d, %v", e, f, b)
	}
}
