package plan_test

import (
	"fmt"
	"strings"
	"testing"

	"valise/api"
	"valise/journal"
	"valise/record"
)

// endOf is an end record's bytes, all 0 but the length of its comment.
func endOf(comment int) string {
	b, _ := record.PutEnd(api.End{Comment: strings.Repeat("c", comment)})
	return string(b[:22])
}

func TestNoteEnds(t *testing.T) { // P15.3, P15.7: a comment in which an end record stands that ends where the file ends
	for _, x := range []struct {
		comment string
		want    api.Errno
	}{
		{endOf(0), api.ErrNote}, {"before" + endOf(0), api.ErrNote}, {endOf(3) + "abc", api.ErrNote}, {endOf(0) + endOf(0), api.ErrNote}, {endOf(22) + endOf(1), api.ErrNote},
		{endOf(1), api.OK}, {endOf(0) + "x", api.OK}, {endOf(4) + "abc", api.OK}, {endOf(0)[:21], api.OK}, {endOf(0)[1:], api.OK},
	} {
		for _, file := range []string{"", one, frame{}.lay(behind(200, plainPart("b", "")))} {
			p, e := notes(x.comment).call([]byte(file), parsed(t, file))
			if e != x.want {
				t.Errorf("the comment %q over %d bytes: %s, %d, want %d", x.comment, len(file), brief(p), e, x.want)
			}
			if x.want == api.ErrNote {
				refused(t, file, notes(x.comment).on(0), api.ErrNote) // ahead of ErrFull
			} else if got := parsed(t, applied(t, file, p)).Comment; got != x.comment {
				t.Errorf("the comment %q is read as %q", x.comment, got)
			}
		}
	}
	// an end record that would be read, as that of another archive
	other, _ := record.PutEnd(api.End{DirAt: 33 + 47 + 22})
	refused(t, one, notes(string(other)), api.ErrNote)
}

// applied is the file behind a plan.
func applied(t *testing.T, file string, p api.Plan) string {
	t.Helper()
	next, e := journal.Apply([]byte(file), p.Size, p.Writes)
	if e != api.OK {
		t.Fatalf("%s: Apply = %d", brief(p), e)
	}
	return string(next)
}

func TestNoteZeros(t *testing.T) { // P15.3: 1024 bytes 0 at the end look like a journal that was begun
	planned(t, one, notes(zeros(1023)), 102+1023, false, 33, 69+1023)
	refused(t, one, notes(zeros(1024)), api.ErrNote)
	refused(t, one, notes("x"+zeros(1024)), api.ErrNote)
	planned(t, one, notes(zeros(1024)+"x"), 102+1025, false, 33, 69+1025)
}

func TestNoteSeal(t *testing.T) { // P15.3: a comment that looks like a seal, but only in a content of one size
	x := plainPart("x", strings.Repeat("x", 100))
	parts := []part{x, plainPart("b", "")}
	const length = 1100
	in, moved := 131+31+47+22+length, 31+47+22+length // without x
	for _, c := range []struct {
		sealed int
		size   int
		moves  bool
	}{{in, moved, true}, {moved, in, false}, {in + 1, in, false}} {
		file := frame{comment: sealed(c.sealed, length)}.lay(parts...)
		if c.moves {
			planned(t, file, deletes("x"), c.size, true, 0, c.size)
		} else {
			planned(t, file, deletes("x"), c.size, false, 162, c.size-162)
		}
	}
	// in place it is no archive at rest, and moved there is no room; moved it is none, and in place there is no room
	file := frame{comment: sealed(in, length)}.lay(parts...)
	p, _ := deletes("x").call([]byte(file), parsed(t, file))
	need, _ := journal.Need(len(file), p.Size, p.Writes)
	refused(t, file, deletes("x").on(need-1), api.ErrFull)
	file = frame{comment: sealed(moved, length)}.lay(parts...)
	refused(t, file, deletes("x").on(0), api.ErrNote)
	// neither way: the same size
	size := 131 + 47 + 22 + length
	file = frame{comment: sealed(size, length)}.lay(x, plainPart("last", ""))
	refused(t, file, deletes("last"), api.ErrNote)
	refused(t, file, deletes("last").on(0), api.ErrNote)
	// Compact has the one way
	file = frame{comment: sealed(size, length), gap: "-"}.lay(x)
	refused(t, file, compacts(), api.ErrNote)
	refused(t, file, compacts().on(0), api.ErrNote)
	// Note: too long in place, and moved it is no archive at rest
	file = frame{}.lay(behind(9000, x))
	refused(t, file, notes(sealed(size, length)), api.ErrNote)
	planned(t, file, notes(sealed(size+1, length)), size, true, 0, size)
}

func TestNoteTight(t *testing.T) { // P15.8: a file that is tight stays as it is, whatever its comment
	file := frame{comment: zeros(2000)}.lay(plainPart("a", "hi"))
	planned(t, file, compacts().on(0), 2102, false)
	file = frame{comment: zeros(2000), gap: "-"}.lay(plainPart("a", "hi"))
	refused(t, file, compacts(), api.ErrNote)
	refused(t, file, deletes("a"), api.ErrNote)
	planned(t, file, notes(""), 102, false, 33, 69)
}

// countedParts are entries with the names 00000, 00001 and so on, without bytes.
func countedParts(n int) []part {
	var parts []part
	for i := range n {
		parts = append(parts, plainPart(fmt.Sprintf("%05d", i), ""))
	}
	return parts
}

// TestNoteCount: among the end record's own bytes the signature of one stands where the archive has 19280 entries (50 4b), and the directory a number of bytes that ends with 05 06; its comment would begin behind ten bytes of the true one.
func TestNoteCount(t *testing.T) { // P15.3
	parts := countedParts(19279)
	x := adds("new", "")
	x.record.Comment = zeros(15*65536 + 0x0605 - 19279*51 - 49)
	for _, c := range []struct {
		comment string
		want    api.Errno
	}{{"", api.OK}, {"12345678\x00", api.OK}, {"12345678\x00\x00", api.ErrNote}, {"12345678\x01\x00", api.OK}, {"12345678\x01\x00x", api.ErrNote}, {"12345678\x00\x00x", api.OK}} {
		file := frame{comment: c.comment}.lay(parts...)
		a := parsed(t, file)
		p, e := x.call([]byte(file), a)
		if e != c.want {
			t.Fatalf("with the comment %q: %s, %d, want %d", c.comment, brief(p), e, c.want)
		}
		if e == api.OK {
			b := parsed(t, applied(t, file, p))
			if len(b.Entries) != 19280 || b.Comment != c.comment || b.Size-b.DirAt != 15*65536+0x0605+22+len(c.comment) {
				t.Errorf("with the comment %q: %d entries, a directory of %d bytes", c.comment, len(b.Entries), b.Size-b.DirAt)
			}
		}
	}
	// Delete may lead there too, and Note
	parts = append(parts, plainPart("y", ""), plainPart("z", ""))
	parts[0].record.Comment = zeros(15*65536 + 0x0605 - 19279*51 - 47)
	file := frame{comment: "12345678\x00\x00"}.lay(parts...)
	refused(t, file, deletes("y"), api.ErrNote)
	refused(t, file, deletes("y").on(0), api.ErrNote)
	file = frame{}.lay(parts[:19280]...)
	refused(t, file, notes("12345678\x00\x00"), api.ErrNote)
	if p, e := notes("12345678\x00").call([]byte(file), parsed(t, file)); e != api.OK {
		t.Errorf("nine bytes of comment: %s, %d", brief(p), e)
	}
}
