package plan_test

import (
	"strings"
	"testing"

	"valise/api"
	"valise/journal"
)

func TestTwice(t *testing.T) { // P15.3: in place up to 2T, and not beyond
	// without a there is b alone: 31 bytes, 47 of the directory, 22: T is 100
	for _, x := range []struct {
		ahead, size int
		moves       bool
		writes      []int
	}{{99, 199, false, []int{130, 69}}, {100, 200, false, []int{131, 69}}, {101, 100, true, []int{0, 100}}} {
		file := frame{}.lay(plainPart("a", strings.Repeat("x", x.ahead-31)), plainPart("b", ""))
		next := planned(t, file, deletes("a"), x.size, x.moves, x.writes...)
		holds(t, next, "b", "")
	}
	// a comment counts too: T is 105
	file := frame{comment: "hello"}.lay(plainPart("a", strings.Repeat("x", 105-31)), plainPart("b", ""))
	planned(t, file, deletes("a"), 210, false, 136, 74)
	// an archive that is too long already is laid down anew by any change
	file = frame{}.lay(behind(101, plainPart("b", "")))
	planned(t, file, notes(""), 100, true, 0, 100)
	planned(t, file, notes("n"), 202, false, 132, 70)
	planned(t, file, renames("b", "c"), 100, false, 0, 100)
	planned(t, file, adds("c", zeros(70)), 132+94+22, false, 0, 101, 132, 94+22)
}

func TestNoRoomInPlace(t *testing.T) { // P15.3: moved, where only that has room
	front := plainPart("a", strings.Repeat("a", 100))
	file := frame{}.lay(front, behind(324, plainPart("b", ""))) // 602 bytes
	x := adds("c", strings.Repeat("c", 966))
	planned(t, file, x.on(3674), 1646, false, 486, 997+3*47+22) // the journal begins at 2048
	for _, capacity := range []int{3673, 2650} {
		next := planned(t, file, x.on(capacity), 1322, true, 131, 31+997+3*47+22) // and here at 1536
		holds(t, next, "a", front.data, "b", "", "c", x.packed)
	}
	refused(t, file, x.on(2649), api.ErrFull)
}

func TestGaps(t *testing.T) { // P15.3, P15.4: the first gap with room, by rising place; of the kept ones' gaps alone
	parts := []part{behind(40, plainPart("a", "one")), behind(33, plainPart("b", "two")), behind(50, plainPart("c", "three"))}
	file := frame{gap: strings.Repeat("-", 200), order: []int{2, 0, 1}}.lay(parts...) // gaps 0 to 40, 74 to 107, 141 to 191, 227 to 427
	end := 227
	for _, x := range []struct{ packed, at int }{{0, 0}, {9, 0}, {10, 141}, {19, 141}} {
		next := planned(t, file, adds("n", zeros(x.packed)), end+4*47+22, false, x.at, 31+x.packed, end, 4*47+22)
		holds(t, next, "c", "three", "a", "one", "b", "two", "n", zeros(x.packed))
	}
	next := planned(t, file, adds("n", zeros(20)), end+51+4*47+22, false, end, 51+4*47+22) // the 200 bytes behind the last one are none
	holds(t, next, "c", "three", "a", "one", "b", "two", "n", zeros(20))
	// b goes: its extent joins the gaps about it, 74 to 191
	next = planned(t, file, adds("b", zeros(86)), end+3*47+22, false, 74, 117, end, 3*47+22)
	holds(t, next, "c", "three", "a", "one", "b", zeros(86))
	next = planned(t, file, adds("b", zeros(87)), end+118+3*47+22, false, end, 118+3*47+22)
	holds(t, next, "c", "three", "a", "one", "b", zeros(87))
	// c goes, which ends last: all behind b is free
	next = planned(t, file, adds("c", zeros(99)), 141+130+3*47+22, false, 141, 130+3*47+22)
	holds(t, next, "a", "one", "b", "two", "c", zeros(99))
	next = planned(t, file, deletes("c"), 141+2*47+22, false, 141, 2*47+22)
	holds(t, next, "a", "one", "b", "two")
	next = planned(t, file, renames("c", "n"), 141+3*47+22, false, 0, 36, 141, 3*47+22)
	holds(t, next, "a", "one", "b", "two", "n", "three")
}

func TestMoved(t *testing.T) { // P15.8: from the first gap on, by rising place; the directory keeps its order
	late := latePart("c", "three", true)
	parts := []part{plainPart("a", "one"), plainPart("b", "two"), behind(5, late), behind(7, plainPart("d", "four"))}
	file := frame{gap: "---", comment: "note", order: []int{3, 1, 2, 0}}.lay(parts...)
	tight := 34 + 34 + 36 + 16 + 35 + 4*47 + 26
	next := planned(t, file, compacts(), tight, true, 68, tight-68)
	holds(t, next, "d", "four", "b", "two", "c", "three", "a", "one")
	if want := (frame{comment: "note", order: []int{3, 1, 2, 0}}).lay(parts[0], parts[1], behind(0, late), behind(0, parts[3])); next != want {
		t.Errorf("compacted: %q, want %q", next, want)
	}
	planned(t, next, compacts(), tight, false)
	// a gap behind the last entry alone: all stay
	file = frame{gap: "---"}.lay(parts[:2]...)
	planned(t, file, compacts(), 68+94+22, true, 68, 94+22)
	// a gap ahead of the first: none does
	file = frame{}.lay(behind(1, parts[0]), parts[1])
	planned(t, file, compacts(), 68+94+22, true, 0, 68+94+22)
	// bytes without an entry
	file = frame{gap: "---"}.lay()
	planned(t, file, compacts(), 22, true, 0, 22)
	planned(t, file, notes(""), 22, false, 0, 22)
	// moved with a new entry, which is laid behind all
	file = frame{}.lay(parts[0], plainPart("x", strings.Repeat("x", 900)), parts[1])
	next = planned(t, file, adds("x", "y"), 34+34+32+3*47+22, true, 34, 34+32+3*47+22)
	holds(t, next, "a", "one", "b", "two", "x", "y")
	if x := parsed(t, next).Entries[2]; x.From != 68 {
		t.Errorf("the new entry is at %d", x.From)
	}
}

func TestRenameRecord(t *testing.T) { // P15.6: what is said of an entry under its new name
	late := latePart("a", "hi", true)
	late.record.Flags = 8 + 2 + 4
	late.record.Extra, late.local.Extra = "AB\x01\x00c", "CD\x02\x00ef"
	late.record.Method, late.record.Size, late.record.Need = 8, 77, 20
	late.record.Made, late.record.Internal, late.record.External, late.record.Clock = 788, 3, 0xfffffff0, 9
	for _, x := range []struct {
		to, comment string
		was, flags  int
	}{
		{"b", "", 0, 6}, {"b", "note", 0, 6}, {"b", "note", 2048, 6}, {"b", "\x7f", 2048, 6}, {"b", "\x80", 0, 2054}, {"b", "x\xff", 2048, 2054}, {"é", "", 0, 2054}, {"ü", "ö", 2048, 2054},
	} {
		p := late
		p.record.Flags |= x.was
		p.record.Comment = x.comment
		extra := p.local.Extra
		p.local = p.record.Local
		p.local.Extra, p.local.Sum, p.local.Packed, p.local.Size = extra, 0, 0, 0
		p.behind = descriptorOf(p.record.Local)
		file := frame{comment: "all"}.lay(p, plainPart("kept", "k"))
		a := parsed(t, file)
		got, e := renames("a", x.to).call([]byte(file), a)
		next, _ := journal.Apply([]byte(file), got.Size, got.Writes)
		b := parsed(t, string(next))
		want := a.Entries[0]
		want.Name, want.Flags = x.to, x.flags
		want.Data = want.From + 30 + len(x.to) + len(extra)
		want.To = want.Data + 2
		if e != api.OK || b.Entries[0] != a.Entries[1] || b.Entries[1] != want || string(next[want.Data:want.To]) != "hi" || b.Comment != "all" {
			t.Errorf("to %q with %q: %d, %v, want %v", x.to, x.comment, e, b.Entries, want)
		}
		l := want.Local
		l.Extra = extra
		if header := headerOf(l); string(next[want.From:want.Data]) != header {
			t.Errorf("to %q with %q: the local header %q, want %q", x.to, x.comment, next[want.From:want.Data], header)
		}
	}
}

func TestAddRecord(t *testing.T) { // P15.4: what is said of an entry that is added
	x := adds("é/", "")
	x.record = api.Central{Made: 65535, Internal: 65535, External: api.MaxField, At: -77, Comment: zeros(65535)}
	x.record.Local = api.Local{Need: 20, Flags: 2054, Method: 8, Clock: 65535, Date: 65535, Sum: 0xffffffff, Size: api.MaxField, Name: "é/", Extra: "\x00\x00\xfb\xff" + zeros(65531)}
	file := frame{}.lay(plainPart("a", "hi"))
	next := planned(t, file, x, 33+30+3+65535+47+46+3+65535+65535+22, false, 33, 30+3+65535+47+46+3+65535+65535+22)
	want := api.Entry{Central: x.record, LocalExtra: x.record.Extra, From: 33, Data: 33 + 33 + 65535, To: 33 + 33 + 65535}
	want.At = 33
	if got := parsed(t, next).Entries[1]; got != want {
		t.Errorf("the entry %.300v", got)
	}
}

func TestEmptyFile(t *testing.T) { // P15.4 to P15.8 over no bytes
	next := planned(t, "", adds("x", "yz"), 33+47+22, false, 0, 33+47+22)
	holds(t, next, "x", "yz")
	next = planned(t, "", notes("n"), 23, false, 0, 23)
	holds(t, next)
	planned(t, "", notes(""), 22, false, 0, 22)
	planned(t, "", compacts(), 22, true, 0, 22)
	planned(t, "", compacts().on(1024), 22, true, 0, 22)
	refused(t, "", compacts().on(1023), api.ErrFull)
	refused(t, "", deletes("x"), api.ErrAbsent)
	refused(t, "", renames("x", "y"), api.ErrAbsent)
}

func TestRoom(t *testing.T) { // P15.3: as much room as the journal needs, to the byte
	file := frame{}.lay(plainPart("a", "hi"), behind(3, plainPart("b", strings.Repeat("b", 700))))
	for _, x := range []ask{adds("c", "x"), adds("a", "x"), deletes("a"), deletes("b"), renames("a", "c"), notes("n"), notes(""), compacts()} {
		p, e := x.call([]byte(file), parsed(t, file))
		need, f := journal.Need(len(file), p.Size, p.Writes)
		if e != api.OK || f != api.OK {
			t.Fatalf("%v = %s, %d, %d", x, brief(p), e, f)
		}
		if q, e := x.on(need).call([]byte(file), parsed(t, file)); e != api.OK || !samePlan(p, q) {
			t.Errorf("%v = %s, %d", x.on(need), brief(q), e)
		}
		refused(t, file, x.on(0), api.ErrFull)
		if q, e := x.on(need-1).call([]byte(file), parsed(t, file)); e == api.OK && samePlan(p, q) {
			t.Errorf("%v = %s", x.on(need-1), brief(q))
		}
	}
}
