package mend_test

import (
	"strings"
	"testing"

	"valise/api"
	"valise/mend"
	"valise/record"
)

func TestAuditArg(t *testing.T) { // P26.1: the most bytes, and one more
	if f, e := mend.Audit(make([]byte, most+1)); f != nil || e != api.ErrArg {
		t.Errorf("Audit of too many bytes = %s, %d", brief(f), int(e))
	}
	audits(t, strings.Repeat("x", most), at(130, 0, ""))
	audits(t, known[:33]+strings.Repeat("x", most-len(known))+known[33:80]+"PK\x05\x06\x00\x00\x00\x00\x01\x00\x01\x00\x2f\x00\x00\x00\xbb\xff\xff\x00\x00\x00")
}

func TestAuditJournal(t *testing.T) { // P26.1, 1
	for _, content := range []string{"", none, known} { // all is well with the content
		for _, state := range states {
			audits(t, sealed(state, content, len(content)), at(141, len(content), ""))
		}
		audits(t, content+zeros(1024), at(141, len(content), ""))
		audits(t, content+zeros(4*1024), at(141, len(content), ""))
	}
	audits(t, "ab"+zeros(2050), at(141, 4, ""), at(130, 0, "")) // chapter 14's example 3: the content is not the file
	for _, state := range states {
		audits(t, sealed(state, "abc", 3), at(141, 3, ""), at(130, 0, ""))
		audits(t, sealed(state, with(known, 31, 'x'), 102), at(141, 102, ""), at(170, 0, "a"))
	}
	audits(t, sealed(api.StateDone, known, 600), at(141, 600, ""), at(130, 0, ""))
	armed := sealed(api.StateArmed, known, 102) // the bytes that are to be put back are those that count
	audits(t, "x"+armed[1:], at(141, 102, ""))
	audits(t, "x"+sealed(api.StateClaimed, known, 102)[1:], at(141, 102, ""), at(136, 0, "a"))
}

func TestAuditNoJournal(t *testing.T) { // P26.1, 1: what is nearly a journal is none
	audits(t, known+zeros(1018), at(130, 0, "")) // it ends with five bytes 0 of its own
	audits(t, known+zeros(1019), at(141, 97, ""), at(130, 0, ""))
	image := sealed(api.StateClaimed, known, 102)
	audits(t, image+"x", at(130, 0, ""))
	audits(t, with(image, strings.Index(image, "VALISE"), 'v'), at(130, 0, ""))
}

func TestAuditLoud(t *testing.T) { // P26.1, 1: of a content that is not quiet nothing more is said, for it is asked once
	loud := with(with(none, 20, 0), 21, 4) + zeros(1024)
	audits(t, loud, at(141, 22, ""), at(130, 0, "")) // the comment is taken for a journal
	for _, state := range states {
		audits(t, sealed(state, loud, len(loud)), at(141, len(loud), ""))
	}
	audits(t, sealed(api.StateClaimed, sealed(api.StateClaimed, known, 102), 3), at(141, 102+1024*2, ""), at(130, 0, ""))
}

func TestAuditEnd(t *testing.T) { // P26.1, 2: then nothing follows
	audits(t, "x", at(130, 0, ""))
	audits(t, known[:101], at(130, 0, ""))
	audits(t, known+"x", at(130, 0, ""))
	audits(t, with(with(known, 80, 'x'), 31, 'x'), at(130, 0, ""))
}

func TestAuditComment(t *testing.T) { // P26.1, 2: the end record stands ahead of a comment
	audits(t, frame{comment: "a comment"}.lay(stored("a", "hi")))
	audits(t, frame{comment: "PK\x05\x06 x"}.lay())
	x := frame{comment: "a comment", end: func(x *api.End) { x.Disk = 7 }}
	audits(t, x.lay(stored("a", "hi")), at(131, 80, ""))
}

func TestAuditDisk(t *testing.T) { // P26.1, 3: once, however many of the numbers are wrong, and more is told
	for _, end := range []func(x *api.End){
		func(x *api.End) { x.Disk = 1 },
		func(x *api.End) { x.DirDisk = 65535 },
		func(x *api.End) { x.Here = 0 },
		func(x *api.End) { x.Here = 65535 },
		func(x *api.End) { x.Disk, x.DirDisk, x.Here = 1, 1, 2 },
	} {
		audits(t, frame{end: end}.lay(stored("a", "hi")), at(131, 80, ""))
		audits(t, frame{end: end}.lay(stored("/", "hi")), at(131, 80, ""), at(134, 33, "/"))
	}
	audits(t, frame{end: func(x *api.End) { x.Here = 1 }}.lay(), at(131, 0, ""))
	audits(t, frame{end: func(x *api.End) { x.Total = 1 }}.lay(), at(131, 0, ""), at(132, 0, ""))
}

func TestAuditPlace(t *testing.T) { // P26.1, 4: the numbers of the end record do not meet; the records are read all the same
	a := stored("a", "hi")
	for _, size := range []int{0, 46, 48, api.MaxField} {
		audits(t, frame{end: func(x *api.End) { x.DirSize = size }}.lay(a), at(132, 80, ""))
		audits(t, frame{end: func(x *api.End) { x.DirSize = size }}.lay(altered(a, func(c *api.Central) { c.Flags = 1 })), at(132, 80, ""), at(133, 33, "a"))
	}
}

func TestAuditRecords(t *testing.T) { // P26.1, 5: from where to where the records are read
	a, b := stored("a", "hi"), stored("b", "bye") // extents 0 to 33, 33 to 67; records at 67, 114; end at 161
	moved := func(at, size, total int) frame {
		return frame{end: func(x *api.End) { x.DirAt, x.DirSize, x.Here, x.Total = at, size, total, total }}
	}
	audits(t, moved(67, 94, 2).lay(a, b))
	audits(t, moved(67, 94, 1).lay(a, b), at(132, 161, ""))
	audits(t, moved(67, 94, 3).lay(a, b), at(132, 161, ""))
	audits(t, moved(67, 94, 0).lay(a, b), at(132, 161, ""))
	audits(t, moved(114, 47, 1).lay(a, b))                                     // the first record's bytes are a gap
	audits(t, moved(114, 47, 2).lay(a, b), at(132, 161, ""))                   // too few
	audits(t, moved(114, 94, 1).lay(a, b), at(132, 161, ""))                   // its size alone is wrong
	audits(t, moved(114, 94, 2).lay(a, b), at(132, 161, ""), at(132, 161, "")) // both
	audits(t, moved(161, 0, 0).lay(a, b))                                      // an archive without entries behind a gap
	audits(t, moved(161, 0, 2).lay(a, b), at(132, 161, ""))                    // none at all, and they should be two
	audits(t, moved(66, 95, 2).lay(a, b), at(132, 66, ""))                     // no record there
	audits(t, moved(66, 94, 2).lay(a, b), at(132, 161, ""), at(132, 66, ""))   // neither
	audits(t, moved(0, 161, 0).lay(a, b), at(132, 0, ""))                      // of no record, but not at the end
	audits(t, moved(162, 0, 0).lay(a, b), at(132, 161, ""), at(132, 162, ""))  // behind the end record's place
	audits(t, moved(183, 0, 2).lay(a, b), at(132, 161, ""), at(132, 183, ""))  // at the file's end
	audits(t, moved(184, 0, 2).lay(a, b), at(132, 161, ""), at(132, 184, ""))  // behind the file
	audits(t, moved(api.MaxField, 0, 0).lay(a, b), at(132, 161, ""), at(132, api.MaxField, ""))
	audits(t, moved(api.MaxField, api.MaxField, 65535).lay(a, b), at(132, 161, ""), at(132, api.MaxField, ""))
}

func TestAuditRecordsBroken(t *testing.T) { // P26.1, 5: up to the first place at which no record is got; those ahead of it are looked at
	a, b := stored("a", "hi"), stored("/", "bye")
	file := laid(a, b) // as above
	audits(t, file, at(134, 114, "/"))
	audits(t, with(file, 67, 'x'), at(132, 67, ""))
	audits(t, with(file, 114, 'x'), at(132, 114, ""))
	audits(t, with(laid(b, a), 114, 'x'), at(132, 114, ""), at(134, 67, "/"))
	audits(t, with(file, 67+28, 2), at(132, 115, ""), at(136, 0, "aP")) // the first name takes a byte more, and the next record is missed
	audits(t, with(file, 114+28, 2), at(132, 114, ""))                  // its name would go into the end record
	audits(t, with(file, 114+32, 22), at(132, 114, ""))                 // and so would this comment
	audits(t, file[:161]+"x"+file[161:], at(132, 162, ""), at(132, 161, ""), at(134, 114, "/"))
	record, _ := record.PutCentral(a.record)
	more := frame{gap: ""}.lay(a)
	more = more[:80] + string(record) + more[80:] // one record more than is said
	audits(t, more, at(132, 127, ""), at(132, 127, ""), at(135, 80, "a"))
}

func TestAuditWithinEnd(t *testing.T) { // P26.1, 5: a record whose comment is the end record is none, for that stands behind the bytes that are read
	a := told(stored("a", "hi"), func(c *api.Central) { c.Comment = none[:22] })
	file := laid(a)
	end := file[len(file)-22:]
	whole := file[:80] + end // the record says a comment of 22 bytes, and these are the end record's own
	whole = with(whole, 80+12, 47)
	audits(t, whole, at(132, 33, ""))
}
