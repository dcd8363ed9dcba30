package store_test

import (
	"hash/crc32"
	"strings"
	"testing"

	"valise/api"
	"valise/disk"
	"valise/journal"
	"valise/layout"
	"valise/store"
)

// sealed is the file of a journal over a content, whatever that is: a seal of this state, which says that the new content has so many bytes, and saved bytes of the old one's first byte.
func sealed(t *testing.T, state int, content string, size int) string {
	t.Helper()
	body := ""
	if content != "" {
		body = "\x00\x00\x00\x00\x01\x00\x00\x00" + content[:1]
	}
	s := api.Seal{State: state, Seq: 77, Old: len(content), New: size, Count: len(body) / 9, Length: len(body), Sum: crc32.ChecksumIEEE([]byte(body))}
	sector, e := journal.EncodeSeal(s)
	if e != api.OK {
		t.Fatalf("EncodeSeal: %d", e)
	}
	var cover []api.Write
	if content != "" {
		cover = []api.Write{{At: 0, Data: []byte("x")}}
	}
	n, e := journal.Need(len(content), max(size, 1), cover) // the write must end within the new size; one byte more or less in it makes no other frame here
	if e != api.OK {
		t.Fatalf("Need: %d", e)
	}
	image := []byte(content + zeros(n-len(content)))
	bodyAt := (max(len(content), size) + 511) / 512 * 512
	copy(image[bodyAt:], body)
	copy(image[n/512*512-512:], sector)
	return string(image)
}

func TestSealed(t *testing.T) { // what the tests here lay down is what Look takes for a journal
	for _, state := range []int{api.StateClaimed, api.StateArmed, api.StateDone} {
		for _, size := range []int{3, 5, 600} {
			v, l := journal.Look([]byte(sealed(t, state, "hello", size)))
			want := 5
			if state == api.StateDone {
				want = size
			}
			if v != (api.Verdict{State: state, Seq: 77, Size: want}) || !strings.HasPrefix("hello"+zeros(700), string(l)) {
				t.Errorf("state %d, size %d: %v, %s", state, size, v, short(string(l)))
			}
		}
	}
}

// recovers holds that Open makes a file the content that it says, in as many changing calls as recovery makes.
func recovers(t *testing.T, image string, found api.Verdict, content string, calls int) {
	t.Helper()
	d := holds(t, image, most)
	s, e := store.Open(d)
	if s == nil || e != api.OK || d.Calls() != calls {
		t.Fatalf("Open over %s = %v, %d, %d changing calls, want %d", short(image), s != nil, e, d.Calls(), calls)
	}
	tells(t, s, d, found, content)
	lost, _ := d.Crash(api.Choice{})
	if string(lost.Image()) != content {
		t.Errorf("Open over %s: the content isn't synced", short(image))
	}
	tells(t, opened(t, lost), lost, api.Verdict{Size: len(content)}, content)
	if lost.Calls() != 0 {
		t.Errorf("another Open makes %d changing calls", lost.Calls())
	}
}

func TestOpenNil(t *testing.T) { // P16.1
	if s, e := store.Open(nil); s != nil || e != api.ErrArg {
		t.Errorf("Open(nil) = %v, %d", s, e)
	}
}

func TestOpenDead(t *testing.T) { // P16.1: ahead of all that the file says
	for _, image := range []string{"", none, "no archive", zeros(1024), zeros(1025), sealed(t, api.StateArmed, none, 22)} {
		d := holds(t, image, 4096)
		d.Crash(api.Choice{})
		if s, e := store.Open(d); s != nil || e != api.ErrDiskPower || d.Calls() != 0 || string(d.Image()) != image {
			t.Errorf("Open over a dead disk = %v, %d", s != nil, e)
		}
	}
}

func TestOpenQuiet(t *testing.T) { // P16.1, P16.2, P0.14: a file without a journal
	whole := rendered(t, "", "a", "hi")
	for _, content := range []string{"", none, whole, rendered(t, "a comment", "a", "hi"), gapped(t)} {
		recovers(t, content, api.Verdict{Size: len(content)}, content, 0)
	}
	refuses(t, "x", api.ErrLayEnd)
	refuses(t, none+"x", api.ErrLayEnd)
	refuses(t, none[:4]+"\x01"+none[5:], api.ErrLayDisk)
	refuses(t, none[:16]+"\x01"+none[17:], api.ErrLayDir)
	refuses(t, strings.Replace(whole, "PK\x01\x02\x14\x00\x0a", "PK\x01\x02\x14\x00\x0b", 1), api.ErrLayEntry)
	refuses(t, strings.ReplaceAll(whole, "a", "/"), api.ErrLayName)
	refuses(t, strings.Replace(rendered(t, "", "a", "hi", "b", "ho"), "b", "a", 2), api.ErrLayTwice)
	refuses(t, strings.Replace(whole, "a", "b", 1), api.ErrLayLocal)
	refuses(t, zeros(1023), api.ErrLayEnd)
}

func TestOpenBlank(t *testing.T) { // P16.1, P16.2
	whole := gapped(t)
	blank := func(content string) api.Verdict { return api.Verdict{State: api.StateBlank, Size: len(content)} }
	for _, content := range []string{"", none, whole, rendered(t, zeros(900))} {
		for _, k := range []int{1, 2, 7} {
			image := content + zeros(1024*k)
			v, l := journal.Look([]byte(image))
			if len(l) == len(content) {
				recovers(t, image, blank(content), content, 2)
			} else {
				t.Errorf("%v of %d bytes", v, len(content))
			}
		}
	}
	refuses(t, zeros(1025), api.ErrSpoilt)
	refuses(t, "x"+zeros(1024), api.ErrSpoilt)
	refuses(t, none+"x"+zeros(4096), api.ErrSpoilt)
	refuses(t, none[:21]+zeros(1024), api.ErrSpoilt)
	refuses(t, none[:4]+"\x01"+none[5:]+zeros(1024), api.ErrSpoilt)
	refuses(t, rendered(t, zeros(1100)), api.ErrSpoilt) // of itself an archive: the zeros of its comment are taken for a journal's
}

func TestOpenSealed(t *testing.T) { // P16.1, P16.2
	calls := map[int]int{api.StateClaimed: 2, api.StateArmed: 4, api.StateDone: 2}
	for state, n := range calls {
		for _, content := range []string{none, gapped(t), rendered(t, "", "a", zeros(5000))} {
			v := api.Verdict{State: state, Seq: 77, Size: len(content)}
			recovers(t, sealed(t, state, content, len(content)), v, content, n)
			if state != api.StateDone {
				recovers(t, sealed(t, state, content, 9), v, content, n)
				recovers(t, sealed(t, state, content, 9000), v, content, n)
				continue
			}
			v.Size = 0 // what stands there is another content's first part
			recovers(t, sealed(t, state, content, 0), v, "", n)
			refuses(t, sealed(t, state, content, len(content)-1), api.ErrSpoilt)
			refuses(t, sealed(t, state, content, len(content)+1), api.ErrSpoilt)
		}
		refuses(t, sealed(t, state, "no archive", 10), api.ErrSpoilt)
		refuses(t, sealed(t, state, none+"x", 23), api.ErrSpoilt)
		refuses(t, sealed(t, state, none[:4]+"\x01"+none[5:], 22), api.ErrSpoilt)
	}
	armed := sealed(t, api.StateArmed, none, 22)
	recovers(t, "x"+armed[1:], api.Verdict{State: api.StateArmed, Seq: 77, Size: 22}, none, 4)
	refuses(t, "x"+sealed(t, api.StateClaimed, none, 22)[1:], api.ErrSpoilt)
	refuses(t, armed[:512]+"x"+armed[513:], api.ErrLayEnd) // a body that isn't right: no journal at all
}

// loud is an archive that could be taken for one with a journal: its comment ends with a right seal.
func loud(t *testing.T) string {
	t.Helper()
	image := []byte(sealed(t, api.StateClaimed, "", 600)) // no old bytes: the frame asks for the zeros ahead of the seal alone
	copy(image, none)
	comment := len(image) - 22
	image[20], image[21] = byte(comment), byte(comment>>8)
	if _, e := layout.Parse(image); e != api.OK || journal.Quiet(image) {
		t.Fatalf("Parse = %d, Quiet %v", e, journal.Quiet(image))
	}
	return string(image)
}

func TestOpenLoud(t *testing.T) { // P16.1, 3: recovery would leave what the next Open takes for a journal once more
	for _, content := range []string{loud(t), rendered(t, zeros(1024)), rendered(t, zeros(2000), "a", "hi")} {
		for _, state := range []int{api.StateClaimed, api.StateArmed, api.StateDone} {
			image := sealed(t, state, content, len(content))
			if v, l := journal.Look([]byte(image)); v.State != state || string(l) != content {
				t.Fatalf("Look = %v, %d bytes", v, len(l))
			}
			refuses(t, image, api.ErrSpoilt)
		}
	}
	image := loud(t) + zeros(1024)
	if v, l := journal.Look([]byte(image)); v.State != api.StateBlank || string(l) != loud(t) {
		t.Fatalf("Look = %v, %d bytes", v, len(l))
	}
	refuses(t, image, api.ErrSpoilt)
}

func TestOpenLooksFirst(t *testing.T) { // P16.1: a right seal at the tail is a journal's, even where it is in a comment
	recovers(t, loud(t), api.Verdict{State: api.StateClaimed, Seq: 77}, "", 2)
	image := []byte(sealed(t, api.StateClaimed, none, 22))
	copy(image[22:], none)
	image[38], image[42], image[43] = 22, byte(len(image)-44), byte((len(image)-44)>>8)
	if a, e := layout.Parse(image); e != api.OK || a.DirAt != 22 {
		t.Fatalf("Parse = %v, %d", a, e)
	}
	recovers(t, string(image), api.Verdict{State: api.StateClaimed, Seq: 77, Size: 22}, none, 2)
}

func TestOpenPower(t *testing.T) { // P16.2: the power fails in Open
	whole := gapped(t)
	for _, x := range []struct {
		image string
		calls int
	}{
		{none + zeros(1024), 2},
		{sealed(t, api.StateClaimed, whole, 22), 2},
		{sealed(t, api.StateArmed, whole, 9000), 4},
		{sealed(t, api.StateDone, whole, len(whole)), 2},
	} {
		for fuse := range x.calls {
			d := holds(t, x.image, most)
			d.Fuse(fuse)
			if s, e := store.Open(d); s != nil || e != api.ErrDiskPower || d.Calls() != fuse || d.Alive() {
				t.Errorf("Fuse(%d): Open = %v, %d, %d changing calls", fuse, s != nil, e, d.Calls())
			}
		}
		d := holds(t, x.image, most)
		d.Fuse(x.calls)
		opened(t, d)
	}
	d := holds(t, whole, most) // nothing is to be done: no power is needed
	d.Fuse(0)
	opened(t, d)
	d = holds(t, "no archive"+zeros(1024), most)
	d.Fuse(0)
	if s, e := store.Open(d); s != nil || e != api.ErrSpoilt || !d.Alive() {
		t.Errorf("Open = %v, %d", s != nil, e)
	}
}

func TestOpenAgain(t *testing.T) { // P16.2: Open does just what Recover does, behind every crash of an update
	old, next := gapped(t), rendered(t, "", "c", strings.Repeat("c", 900))
	for fuse := range 13 {
		d := holds(t, old, 9000)
		d.Fuse(fuse)
		journal.Update(d, 5, len(next), becomes(next).Writes)
		for _, c := range []api.Choice{{}, {Size: 9, Rest: 9}, {Size: 9}, {Rest: 9}, {Sectors: []int{1, 0, 1}}, {Size: 1, Rest: 1}} {
			found, _ := d.Crash(c)
			twin, _ := d.Crash(c)
			v, e := journal.Recover(twin)
			if e != api.OK {
				t.Fatalf("Recover = %d", e)
			}
			s := opened(t, found)
			tells(t, s, found, v, string(twin.Image()))
			if found.Calls() != twin.Calls() {
				t.Errorf("Fuse(%d), %v: %d changing calls, Recover's %d", fuse, c, found.Calls(), twin.Calls())
			}
		}
	}
}

func TestOpenUnsynced(t *testing.T) { // P16.2: where there is no journal nothing is synced
	d := holds(t, none, 4096)
	if e := d.WriteAt(0, []byte(rendered(t, "", "a", "hi"))); e != api.OK {
		t.Fatalf("WriteAt = %d", e)
	}
	s := opened(t, d)
	if len(s.Archive().Entries) != 1 || d.Calls() != 1 {
		t.Errorf("Archive %v, %d changing calls", s.Archive(), d.Calls())
	}
	var lost *disk.Disk
	if lost, _ = d.Crash(api.Choice{}); string(lost.Image()) != none {
		t.Errorf("Open has synced")
	}
}
