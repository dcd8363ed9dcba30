package journal_test

import (
	"hash/crc32"
	"math/rand"
	"testing"

	"valise/api"
	"valise/disk"
	"valise/journal"
)

// borders are sizes at which something changes.
var borders = []int{0, 1, 12, 500, 503, 504, 505, 511, 512, 513, 1000, 1023, 1024, 1025, 1535, 1536, 1537, 2048, 2500}

// drawText draws so many bytes; now and then they end with zeros.
func drawText(r *rand.Rand, n int) string {
	text := make([]byte, n)
	r.Read(text)
	if r.Intn(3) == 0 {
		clear(text[n-min(n, r.Intn(1100)):])
	}
	return string(text)
}

// drawSize draws a size near a border, or any small one.
func drawSize(r *rand.Rand) int {
	if r.Intn(3) == 0 {
		return r.Intn(2600)
	}
	return borders[r.Intn(len(borders))]
}

// drawWrites draws writes that are right for a size.
func drawWrites(r *rand.Rand, size int) []api.Write {
	var writes []api.Write
	at := 0
	for range r.Intn(5) {
		at += r.Intn(2) * r.Intn(900)
		if at >= size {
			break
		}
		n := 1 + r.Intn(min(size-at, 1+r.Intn(1200)))
		writes = append(writes, write(at, drawText(r, n)))
		at += n
	}
	return writes
}

// drawAny draws writes that may be wrong in one place.
func drawAny(r *rand.Rand, size int) []api.Write {
	writes := drawWrites(r, size)
	if len(writes) == 0 || r.Intn(2) == 0 {
		return writes
	}
	w := &writes[r.Intn(len(writes))]
	switch r.Intn(4) {
	case 0:
		w.At += r.Intn(5) - 2
	case 1:
		w.Data = append(w.Data, 'x')
	case 2:
		w.Data = w.Data[:r.Intn(len(w.Data))]
	case 3:
		writes = append(writes, writes[0])
	}
	return writes
}

func TestModelApply(t *testing.T) { // P14.2, P14.3
	r := rand.New(rand.NewSource(141))
	for range 3000 {
		content, size := drawText(r, drawSize(r)), drawSize(r)
		writes := drawAny(r, size)
		if !plainRight(size, writes) {
			applies(t, content, size, writes, "", api.ErrSealWrite)
			needs(t, len(content), size, writes, 0, api.ErrSealWrite)
			continue
		}
		_, body := plainBody(content, writes)
		file, _, _ := plainPlaces(len(content), size, len(body))
		applies(t, content, size, writes, plainApply(content, size, writes), api.OK)
		needs(t, len(content), size, writes, file, api.OK)
	}
}

// alike holds two disks against each other: all they tell, and what every crash of them keeps. Both are dead behind it.
func alike(t *testing.T, got, want *disk.Disk) {
	t.Helper()
	if string(got.Image()) != string(want.Image()) || got.Calls() != want.Calls() || got.Alive() != want.Alive() {
		t.Errorf("the disk: %d bytes, %d calls, want %d, %d; or other bytes", got.Size(), got.Calls(), want.Size(), want.Calls())
	}
	for size := range 3 {
		for rest := range 6 { // the sectors' pieces hang on nothing but themselves: to keep as many of each tells all of them
			a, _ := got.Crash(api.Choice{Size: size, Rest: rest})
			b, _ := want.Crash(api.Choice{Size: size, Rest: rest})
			if string(a.Image()) != string(b.Image()) {
				t.Fatalf("behind a crash that keeps %d and %d the disks differ: %d bytes, want %d", size, rest, a.Size(), b.Size())
			}
		}
	}
}

func TestModelUpdate(t *testing.T) { // P14.8: the changing calls, one by one
	r := rand.New(rand.NewSource(148))
	for range 120 {
		content, size := drawText(r, drawSize(r)), drawSize(r)
		writes, seq := drawWrites(r, size), r.Intn(api.MaxField+1)
		after := plainApply(content, size, writes)
		if plainTail(content) >= 1024 || plainTail(after) >= 1024 {
			continue
		}
		calls := plainUpdate(content, seq, size, writes)
		for fuse := range len(calls) + 2 {
			got, want := holds(t, content, 1<<14), holds(t, content, 1<<14)
			got.Fuse(fuse)
			want.Fuse(fuse)
			e := journal.Update(got, seq, size, writes)
			if f := follow(want, calls); e != f {
				t.Errorf("Update from %d to %d bytes with Fuse(%d) = %d, want %d", len(content), size, fuse, e, f)
			}
			if e == api.OK && string(got.Image()) != after {
				t.Errorf("Update from %d to %d bytes: not the new content", len(content), size)
			}
			alike(t, got, want)
		}
	}
}

// drawJournal draws a file in the form that an update has, in one of its states, and spoils it now and then.
func drawJournal(r *rand.Rand) string {
	content, size := drawText(r, drawSize(r)), drawSize(r)
	count, body := plainBody(content, drawWrites(r, size))
	if r.Intn(4) == 0 {
		count, body = drawBody(r, len(content))
	}
	s := api.Seal{State: 2 + r.Intn(3), Seq: r.Intn(api.MaxField + 1), Old: len(content), New: size, Count: count, Length: len(body), Sum: crc32.ChecksumIEEE([]byte(body))}
	file, at, bodyAt := plainPlaces(len(content), size, len(body))
	switch r.Intn(12) {
	case 0:
		s.Old += r.Intn(3) - 1
	case 1:
		s.New += 512 * (r.Intn(3) - 1)
	case 2:
		s.Count += r.Intn(3) - 1
	case 3:
		s.Length += 1024 * (r.Intn(3) - 1)
	case 4:
		s.Sum ^= 1
	case 5:
		s.Count, s.Length = r.Intn(api.MaxField+1), max(0, s.Length+r.Intn(3)-1)
	}
	image := []byte(zeros(file))
	copy(image, drawText(r, max(len(content), size)))
	copy(image[bodyAt:], body)
	copy(image[at:], plainSector(s))
	switch r.Intn(10) {
	case 0:
		image[r.Intn(len(image))] ^= 1 << r.Intn(8)
	case 1:
		image = image[:len(image)-1-r.Intn(600)]
	case 2:
		image = append(image, zeros(1+r.Intn(600))...)
	case 3:
		image[len(image)-1] = byte(r.Intn(2))
	}
	return string(image)
}

// drawBody draws a body with a right sum and spans that may be wrong: in the wrong order, empty, beyond the old content, or with too many or too few bytes behind them.
func drawBody(r *rand.Rand, old int) (int, string) {
	head, rest, at := "", "", 0
	count := r.Intn(4)
	for range count {
		at += r.Intn(old/3 + 2)
		n := 1 + r.Intn(old/3+2)
		if r.Intn(9) == 0 {
			n = 0
		}
		if r.Intn(9) == 0 {
			at = max(0, at-n-1)
		}
		head, rest = head+pair(at, n), rest+drawText(r, n)
		at += n
	}
	switch r.Intn(6) {
	case 0:
		rest += "x"
	case 1:
		rest = rest[:max(0, len(rest)-1)]
	}
	return count, head + rest
}

func TestModelLook(t *testing.T) { // P14.4, P14.5
	r := rand.New(rand.NewSource(144))
	var seen [5]int
	for range 6000 {
		image := drawJournal(r)
		v, content, _ := plainLook(image)
		looks(t, image, v, content)
		seen[v.State]++
		if t.Failed() {
			return
		}
	}
	for state, n := range seen {
		if n < 100 {
			t.Errorf("the state %d was drawn only %d times", state, n)
		}
	}
}

func TestModelRecover(t *testing.T) { // P14.6, P14.7: the changing calls, one by one
	r := rand.New(rand.NewSource(146))
	for range 400 {
		image := drawJournal(r)
		v, content, _ := plainLook(image)
		calls := plainRecover(image)
		for fuse := range len(calls) + 2 {
			got, want := holds(t, image, 1<<14), holds(t, image, 1<<14)
			got.Fuse(fuse)
			want.Fuse(fuse)
			verdict, e := journal.Recover(got)
			f := follow(want, calls)
			if f != api.OK && (verdict != api.Verdict{} || e != f) || f == api.OK && (verdict != v || e != api.OK || string(got.Image()) != content) {
				t.Errorf("Recover of %v with Fuse(%d) = %v, %d, want the error %d", v, fuse, verdict, e, f)
			}
			alike(t, got, want)
		}
	}
}
