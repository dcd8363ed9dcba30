package plan_test

import (
	"testing"

	"valise/api"
	"valise/plan"
)

// one is the archive that the chapter's examples call a.
var one = frame{}.lay(plainPart("a", "hi"))

func TestExampleFit(t *testing.T) { // example 1
	three := []api.Span{{From: 10, To: 12}, {From: 20, To: 50}, {From: 60, To: 90}}
	for _, x := range []struct {
		gaps       []api.Span
		need, want int
	}{{three, 30, 20}, {three, 31, -1}, {[]api.Span{{}}, 0, 0}, {[]api.Span{{From: 5, To: 1}, {From: -9, To: 90}}, 1, -1}, {[]api.Span{{From: 0, To: 9}}, -1, -1}} {
		if n := plan.Fit(x.gaps, x.need); n != x.want {
			t.Errorf("Fit(%v, %d) = %d, want %d", x.gaps, x.need, n, x.want)
		}
	}
}

func TestExampleAdd(t *testing.T) { // example 2
	two := planned(t, one, adds("bc", "four"), 186, false, 33, 153)
	holds(t, two, "a", "hi", "bc", "four")
	planned(t, one, adds("bc", "four").on(2150), 186, false, 33, 153)
	refused(t, one, adds("bc", "four").on(2149), api.ErrFull)
}

func TestExampleDelete(t *testing.T) { // examples 3 and 4
	if none := planned(t, one, deletes("a"), 22, false, 0, 22); none != "PK\x05\x06"+zeros(18) {
		t.Errorf("the archive of nothing: %q", none)
	}
	two := planned(t, one, adds("bc", "four"), 186, false, 33, 153)
	gap := planned(t, two, deletes("a"), 139, false, 69, 70)
	holds(t, gap, "bc", "four")
	tight := planned(t, gap, compacts(), 106, true, 0, 106)
	holds(t, tight, "bc", "four")
	planned(t, tight, compacts(), 106, false)
	full := planned(t, gap, adds("x", "yz"), 186, false, 0, 33, 69, 117)
	holds(t, full, "bc", "four", "x", "yz")
}

func TestExampleRename(t *testing.T) { // example 5
	next := planned(t, one, renames("a", "\xc3\xa9"), 104, false, 0, 104)
	holds(t, next, "\xc3\xa9", "hi")
	if flags := parsed(t, next).Entries[0].Flags; flags != 2048 {
		t.Errorf("the Flags %d", flags)
	}
	refused(t, one, renames("a", "a"), api.ErrTaken)
	refused(t, one, renames("a", "/"), api.ErrName)
	refused(t, one, renames("b", "c"), api.ErrAbsent)
}

func TestExampleAgain(t *testing.T) { // example 6
	long := zeros(300)
	next := planned(t, one, adds("a", long), 400, false, 0, 400)
	holds(t, next, "a", long)
}

func TestExampleNote(t *testing.T) { // example 7
	next := planned(t, one, notes("hello"), 107, false, 33, 74)
	if a := parsed(t, next); a.Comment != "hello" {
		t.Errorf("the comment %q", a.Comment)
	}
	holds(t, next, "a", "hi")
	refused(t, one, notes("PK\x05\x06"+zeros(18)), api.ErrNote)
}

func TestExampleDiff(t *testing.T) { // example 8
	differs(t, "abcdef", "abXYef!", api.Write{At: 2, Data: []byte("XYef!")})
	differs(t, "0123456789ab", "X12345678Yab", api.Write{At: 0, Data: []byte("X12345678Y")})
	differs(t, "0123456789ab", "X123456789Yb", api.Write{At: 0, Data: []byte("X")}, api.Write{At: 10, Data: []byte("Y")})
	differs(t, "abc", "a")
	differs(t, "", "\x00\x00\x01", api.Write{At: 2, Data: []byte{1}})
}
