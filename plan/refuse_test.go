package plan_test

import (
	"math"
	"strings"
	"testing"

	"valise/api"
)

// badCapacities are those outside their domain.
var badCapacities = []int{-1, most + 1, math.MinInt, math.MaxInt}

// others are archives that are not one's, each by something else.
func others(t *testing.T) []api.Archive {
	t.Helper()
	var list []api.Archive
	turn := func(f func(a *api.Archive, x *api.Entry)) {
		a := parsed(t, one)
		f(&a, &a.Entries[0])
		list = append(list, a)
	}
	turn(func(a *api.Archive, x *api.Entry) { *a = api.Archive{} })
	turn(func(a *api.Archive, x *api.Entry) { a.Size++ })
	turn(func(a *api.Archive, x *api.Entry) { a.Size = math.MinInt })
	turn(func(a *api.Archive, x *api.Entry) { a.DirAt-- })
	turn(func(a *api.Archive, x *api.Entry) { a.Comment = "x" })
	turn(func(a *api.Archive, x *api.Entry) { a.Entries = nil })
	turn(func(a *api.Archive, x *api.Entry) { a.Entries = append(a.Entries, *x) })
	turn(func(a *api.Archive, x *api.Entry) { x.From = -1 })
	turn(func(a *api.Archive, x *api.Entry) { x.Data = math.MaxInt })
	turn(func(a *api.Archive, x *api.Entry) { x.To++ })
	turn(func(a *api.Archive, x *api.Entry) { x.At++ })
	turn(func(a *api.Archive, x *api.Entry) { x.LocalExtra = "AB\x00\x00" })
	turn(func(a *api.Archive, x *api.Entry) { x.Extra = "AB\x00\x00" })
	turn(func(a *api.Archive, x *api.Entry) { x.Comment = "x" })
	turn(func(a *api.Archive, x *api.Entry) { x.Name = "b" })
	turn(func(a *api.Archive, x *api.Entry) { x.Sum++ })
	turn(func(a *api.Archive, x *api.Entry) { x.Packed = math.MaxInt })
	return list
}

// refusedBy holds that a call over one is refused by an error, also with wrong things that are asked later: another archive, and no room.
func refusedBy(t *testing.T, x ask, want api.Errno, alsoOthers bool) {
	t.Helper()
	list := []api.Archive{parsed(t, one)}
	if alsoOthers {
		list = append(list, others(t)...)
	}
	for _, a := range list {
		if p, e := x.call([]byte(one), a); e != want || !samePlan(p, api.Plan{}) || p.Writes != nil {
			t.Errorf("%v over %.80v = %s, %d, want %d", x, a, brief(p), e, want)
		}
	}
}

func TestRefusedCapacity(t *testing.T) { // P15.4 to P15.8: ahead of all others
	for _, n := range badCapacities {
		for _, x := range []ask{adds("b", "x"), adds("/", "x"), deletes("a"), deletes("b"), renames("a", "c"), renames("q", "/"), notes("x"), compacts()} {
			refusedBy(t, x.on(n), api.ErrArg, true)
		}
	}
}

func TestRefusedOther(t *testing.T) { // P15.4 to P15.8
	for _, a := range others(t) {
		for _, x := range []ask{adds("b", "x"), adds("a", "x"), deletes("a"), deletes("q"), renames("a", "c"), renames("q", "c"), renames("a", "a"), notes("x"), notes(""), compacts()} {
			for _, n := range []int{0, most} {
				if p, e := x.on(n).call([]byte(one), a); e != api.ErrPlan || !samePlan(p, api.Plan{}) {
					t.Errorf("%v over %.80v = %s, %d", x, a, brief(p), e)
				}
			}
		}
	}
	a := parsed(t, one)
	for _, file := range []string{"", one[1:], one[:101], one + "x", strings.Repeat("x", 102), zeros(most + 1)} { // no archive, or another one
		for _, x := range []ask{adds("b", "x"), deletes("a"), renames("a", "c"), notes("x"), compacts()} {
			if p, e := x.call([]byte(file), a); e != api.ErrPlan || !samePlan(p, api.Plan{}) {
				t.Errorf("%v over %d bytes = %s, %d", x, len(file), brief(p), e)
			}
		}
	}
}

func TestRefusedAdd(t *testing.T) { // P15.4
	for i, turn := range []func(c *api.Central){
		func(c *api.Central) { c.Packed = 1 },
		func(c *api.Central) { c.Packed = 3 },
		func(c *api.Central) { c.Packed, c.Size = 3, 3 },
		func(c *api.Central) { c.Packed, c.Method = -1, 8 },
		func(c *api.Central) { c.Size = 3 },
		func(c *api.Central) { c.Size, c.Method = -1, 8 },
		func(c *api.Central) { c.Size, c.Method = api.MaxField+1, 8 },
		func(c *api.Central) { c.Flags = 8 },
		func(c *api.Central) { c.Flags = 8 + 2048 },
		func(c *api.Central) { c.Flags = 1 },
		func(c *api.Central) { c.Flags = 16 },
		func(c *api.Central) { c.Flags = 1 << 16 },
		func(c *api.Central) { c.Flags = -1 },
		func(c *api.Central) { c.Flags = math.MinInt },
		func(c *api.Central) { c.Method = 1 },
		func(c *api.Central) { c.Method = -8 },
		func(c *api.Central) { c.Need = 0 },
		func(c *api.Central) { c.Need = 21 },
		func(c *api.Central) { c.Disk = 1 },
		func(c *api.Central) { c.Disk = -1 },
		func(c *api.Central) { c.Extra = "x" },
		func(c *api.Central) { c.Extra = "AB\x01\x00" },
		func(c *api.Central) { c.Extra = "\x00\x00\xfc\xff" + zeros(65532) },
		func(c *api.Central) { c.Made = -1 },
		func(c *api.Central) { c.Made = 65536 },
		func(c *api.Central) { c.Clock = 65536 },
		func(c *api.Central) { c.Date = -1 },
		func(c *api.Central) { c.Internal = 65536 },
		func(c *api.Central) { c.External = -1 },
		func(c *api.Central) { c.External = api.MaxField + 1 },
		func(c *api.Central) { c.Comment = zeros(65536) },
	} {
		for _, name := range []string{"b", "a", "/", strings.Repeat("n", 65536)} { // ahead of ErrName
			x := adds(name, "yo")
			turn(&x.record)
			if p, e := x.call([]byte(one), parsed(t, one)); e != api.ErrArg || !samePlan(p, api.Plan{}) {
				t.Errorf("turn %d, %v = %s, %d", i, x, brief(p), e)
			}
			refusedBy(t, x.on(0), api.ErrArg, true)
		}
	}
	for _, name := range []string{"", "/", "a//b", "..", "\xff", "a\\b", strings.Repeat("n", 65536)} {
		refusedBy(t, adds(name, "yo").on(0), api.ErrName, true)
	}
	for _, at := range []int{-1, math.MinInt, math.MaxInt, 1 << 32} { // it does not count
		x := adds("b", "yo")
		x.record.At = at
		planned(t, one, x, 33+33+94+22, false, 33, 33+94+22)
	}
	name := strings.Repeat("n", 65535)
	planned(t, one, adds(name, ""), 33+30+65535+47+46+65535+22, false, 33, 30+65535+47+46+65535+22)
}

func TestRefusedDelete(t *testing.T) { // P15.5
	for _, name := range []string{"b", "", "/", "A", "a/", "\xff", strings.Repeat("n", 70000)} {
		refusedBy(t, deletes(name).on(0), api.ErrAbsent, false)
		refusedBy(t, deletes(name), api.ErrAbsent, false)
	}
	refusedBy(t, deletes("a").on(0), api.ErrFull, false)
}

func TestRefusedRename(t *testing.T) { // P15.6
	for _, to := range []string{"", "/", "a//b", "..", "\xff", strings.Repeat("n", 65536)} {
		refusedBy(t, renames("a", to), api.ErrName, true)
		refusedBy(t, renames("q", to).on(0), api.ErrName, true)
	}
	for _, from := range []string{"b", "", "/", strings.Repeat("n", 70000)} {
		refusedBy(t, renames(from, "a").on(0), api.ErrAbsent, false) // also where the name to is taken
		refusedBy(t, renames(from, "c"), api.ErrAbsent, false)
	}
	refusedBy(t, renames("a", "a").on(0), api.ErrTaken, false)
	refusedBy(t, renames("a", "b").on(0), api.ErrFull, false)
	file := frame{}.lay(plainPart("a", "hi"), plainPart("b", ""))
	refused(t, file, renames("a", "b").on(0), api.ErrTaken)
	refused(t, file, renames("b", "a"), api.ErrTaken)
	refused(t, file, renames("b", "b"), api.ErrTaken)
}

func TestRefusedNote(t *testing.T) { // P15.7
	refusedBy(t, notes(strings.Repeat("n", 65536)), api.ErrArg, true)
	refusedBy(t, notes(strings.Repeat("n", 1<<20)).on(0), api.ErrArg, true)
	planned(t, one, notes(strings.Repeat("n", 65535)), 102+65535, false, 33, 69+65535)
	refusedBy(t, notes("n").on(0), api.ErrFull, false)
	file := frame{comment: "note"}.lay(plainPart("a", "hi"))
	if next := planned(t, file, notes("note"), 106, false, 33, 73); next != file { // also where the comment stands there
		t.Errorf("the same comment makes %q of %q", next, file)
	}
	if next := planned(t, file, notes(""), 102, false, 33, 69); next != one {
		t.Errorf("no comment makes %q of %q", next, file)
	}
}

func TestRefusedCompact(t *testing.T) { // P15.8
	file := frame{gap: "-"}.lay(plainPart("a", "hi"))
	refused(t, file, compacts().on(0), api.ErrFull)
	planned(t, one, compacts().on(0), 102, false)
	planned(t, "PK\x05\x06"+zeros(18), compacts().on(0), 22, false)
}
