package journal_test

import (
	"hash/crc32"
	"strings"
	"testing"

	"valise/api"
	"valise/journal"
)

// laid is the file of an update from a content, in which the places below the greater size now hold other bytes, with a body and a seal that says so.
func laid(now string, s api.Seal, body string) string {
	file, at, bodyAt := plainPlaces(s.Old, s.New, len(body))
	image := []byte(now + zeros(file-len(now)))
	copy(image[bodyAt:], body)
	s.Length, s.Sum = len(body), crc32.ChecksumIEEE([]byte(body))
	copy(image[at:], plainSector(s))
	return string(image)
}

func TestLookBlank(t *testing.T) { // P14.4: a tail of 1024 bytes
	for _, x := range []struct {
		text           string
		zeros, content int
	}{
		{"", 1024, 0}, {"", 1025, 1}, {"", 2047, 1023}, {"", 2048, 0}, {"", 5000, 904},
		{"a", 1024, 1}, {"a", 2047, 1024}, {"a", 2048, 1}, {hello, 10 * 1024, 12}, {hello, 10*1024 + 1023, 1035},
	} {
		image := x.text + zeros(x.zeros)
		looks(t, image, api.Verdict{State: api.StateBlank, Size: x.content}, image[:x.content])
	}
	for _, image := range []string{"", "\x00", zeros(511), zeros(512), zeros(1023), "a" + zeros(1023), zeros(4000) + "a", zeros(4000) + "a" + zeros(1023)} {
		silent(t, image)
	}
}

func TestLookArmed(t *testing.T) { // P14.4: the saved bytes are put back
	s := api.Seal{State: 3, Seq: 9, Old: 12, New: 15, Count: 2}
	body := pair(0, 1) + pair(5, 2) + "h" + ", "
	image := laid("Jello--worldxyz", s, body)
	looks(t, image, api.Verdict{State: 3, Seq: 9, Size: 12}, hello)
	for i := range image { // no bit of the journal may be another; those of the content aren't asked
		other := []byte(image)
		other[i] ^= 0x10
		v, content, _ := plainLook(string(other))
		if (v.State == 3) != (i < 512 || i >= 512+len(body) && i < 1536) {
			t.Fatalf("the model says %v with the byte %d another", v, i)
		}
		looks(t, string(other), v, content)
	}
}

func TestLookBodies(t *testing.T) { // P14.4: which bodies are right, all under a right sum
	s := api.Seal{State: 3, Seq: 9, Old: 12, New: 12}
	for _, x := range []struct {
		what  string
		count int
		body  string
		ok    bool
	}{
		{"none", 0, "", true},
		{"one byte", 1, pair(0, 1) + "h", true},
		{"all", 1, pair(0, 12) + hello, true},
		{"the last byte", 1, pair(11, 1) + "d", true},
		{"two, side by side", 2, pair(0, 1) + pair(1, 1) + "he", true},
		{"two, apart", 2, pair(0, 1) + pair(11, 1) + "hd", true},
		{"no span of many bytes", 0, "h", false},
		{"a count beyond the body", 1, "", false},
		{"half a span", 1, pair(0, 1)[:7], false},
		{"a span without its bytes", 1, pair(0, 1), false},
		{"a byte too many", 1, pair(0, 1) + "he", false},
		{"a byte too few", 1, pair(0, 2) + "h", false},
		{"an empty span", 1, pair(0, 0), false},
		{"an empty span behind one", 2, pair(0, 1) + pair(1, 0) + "h", false},
		{"an empty span ahead of one", 2, pair(0, 0) + pair(0, 1) + "h", false},
		{"beyond the old content", 1, pair(11, 2) + "dx", false},
		{"behind the old content", 1, pair(12, 1) + "x", false},
		{"far behind", 1, pair(api.MaxField, 1) + "x", false},
		{"a byte in common", 2, pair(0, 2) + pair(1, 1) + "hee", false},
		{"twice", 2, pair(0, 1) + pair(0, 1) + "hh", false},
		{"not in order", 2, pair(1, 1) + pair(0, 1) + "eh", false},
		{"a number of bytes that can't be", 1, pair(0, api.MaxField) + "h", false},
		{"fewer bytes than the second wants", 2, pair(0, 1) + pair(1, 9) + "he", false},
		{"a count that can't be", api.MaxField, pair(0, 1) + "h", false},
	} {
		t.Run(x.what, func(t *testing.T) {
			s.Count = x.count
			image := laid(hello, s, x.body)
			if !x.ok {
				silent(t, image)
				return
			}
			looks(t, image, api.Verdict{State: 3, Seq: 9, Size: 12}, hello)
		})
	}
	s.Count = 1
	wrong := strings.Replace(laid(hello, s, pair(0, 1)+"h"), pair(0, 1)+"h", pair(0, 1)+"j", 1)
	silent(t, wrong) // the sum is another
}

func TestLookOthers(t *testing.T) { // P14.4: neither a claimed nor a done seal asks for the body
	for _, x := range []struct{ state, size int }{{2, 12}, {4, 15}} {
		s := api.Seal{State: x.state, Seq: api.MaxField, Old: 12, New: 15, Count: 77}
		image := []byte(laid(hello+"xyz", s, "no body at all"))
		looks(t, string(image), api.Verdict{State: x.state, Seq: api.MaxField, Size: x.size}, (hello + "xyz")[:x.size])
		image[512] ^= 1
		looks(t, string(image), api.Verdict{State: x.state, Seq: api.MaxField, Size: x.size}, (hello + "xyz")[:x.size])
	}
}

func TestLookPlace(t *testing.T) { // P14.4: the seal stands where FILE says, and zeros behind it
	s := api.Seal{State: 4, Seq: 1, Old: 100, New: 100}
	image := laid(strings.Repeat("a", 100), s, "")
	for n := range image {
		silent(t, image[:n])
	}
	for n := 1; n <= 451; n++ { // with 451 more the tail has 1023 bytes
		silent(t, image+zeros(n))
	}
	for i := 1024; i < len(image); i++ {
		silent(t, image[:i]+"x"+image[i+1:])
	}
	s.Old = 101
	silent(t, image[:512]+plainSector(s)+image[1024:])
	s.Old, s.New = 100, 513 // a seal place further behind
	silent(t, image[:512]+plainSector(s)+image[1024:])
	s.New = 512
	looks(t, image[:512]+plainSector(s)+image[1024:], api.Verdict{State: 4, Seq: 1, Size: 512}, image[:512])
	s.Length = 1 // its body would be in the seal
	silent(t, image[:512]+plainSector(s)+image[1024:])
	s.Length = api.MaxField
	silent(t, image[:512]+plainSector(s)+image[1024:])
}

func TestLookGreat(t *testing.T) { // P14.4: lists of any length; contents of MaxCapacity bytes at most
	most := strings.Repeat("a", api.MaxCapacity)
	for _, x := range []struct {
		old, size int
		ok        bool
	}{{api.MaxCapacity, 5, true}, {5, api.MaxCapacity, true}, {api.MaxCapacity, api.MaxCapacity, true}, {api.MaxCapacity + 1, 5, false}, {5, api.MaxCapacity + 1, false}} {
		s := api.Seal{State: 4, Seq: 1, Old: x.old, New: x.size}
		image := laid(most, s, "")
		if !x.ok {
			silent(t, image)
			continue
		}
		looks(t, image, api.Verdict{State: 4, Seq: 1, Size: x.size}, most[:x.size])
		s.State = 2
		looks(t, laid(most, s, ""), api.Verdict{State: 2, Seq: 1, Size: x.old}, laid(most, s, "")[:x.old])
	}
	silent(t, most+most+"a")
	looks(t, most+most+zeros(1024), api.Verdict{State: 1, Size: 2 * api.MaxCapacity}, most+most)
}

func TestArchivesAreQuiet(t *testing.T) { // P14.5: whatever stands ahead of an end record without a comment
	end := "PK\x05\x06" + zeros(18)
	for state := 2; state <= 4; state++ {
		image := laid(hello, api.Seal{State: state, Old: 12, New: 5}, "")
		for n := range len(image) {
			if !journal.Quiet([]byte(image[:n] + end)) {
				t.Fatalf("%d bytes and an end record are not quiet", n)
			}
			if n >= len(end) && !journal.Quiet([]byte(image[:n-len(end)] + end + image[n:])[:n]) {
				t.Fatalf("%d bytes with an end record as the last are not quiet", n)
			}
		}
	}
}
