package record_test

import (
	"math"
	"math/rand"
	"testing"
	"time"

	"valise/api"
	"valise/record"
)

func packs(t *testing.T, s api.Stamp, date, clock int, want api.Errno) {
	t.Helper()
	if d, c, e := record.PackStamp(s); d != date || c != clock || e != want {
		t.Errorf("PackStamp(%v) = %d, %d, %d, want %d, %d, %d", s, d, c, e, date, clock, want)
	}
}

func unpacks(t *testing.T, date, clock int, want api.Stamp, e api.Errno) {
	t.Helper()
	if s, got := record.UnpackStamp(date, clock); s != want || got != e {
		t.Errorf("UnpackStamp(%d, %d) = %v, %d, want %v, %d", date, clock, s, got, want, e)
	}
}

// daysOf is how many days a month has, by the library.
func daysOf(year, month int) int {
	return time.Date(year, time.Month(month)+1, 0, 0, 0, 0, 0, time.UTC).Day()
}

func TestPackDays(t *testing.T) { // P12.2: each day that there is, and the two beside each month
	for year := 1980; year <= 2107; year++ {
		for month := 1; month <= 12; month++ {
			n := daysOf(year, month)
			for day := 1; day <= n; day++ {
				packs(t, api.Stamp{Year: year, Month: month, Day: day}, (year-1980)*512+month*32+day, 0, api.OK)
			}
			packs(t, api.Stamp{Year: year, Month: month}, 0, 0, api.ErrStamp)
			packs(t, api.Stamp{Year: year, Month: month, Day: n + 1}, 0, 0, api.ErrStamp)
		}
	}
}

func TestPackSeconds(t *testing.T) { // P12.2: each second of a day
	for second := range 24 * 60 * 60 {
		s := api.Stamp{Year: 2000, Month: 2, Day: 29, Hour: second / 3600, Minute: second / 60 % 60, Second: second % 60}
		packs(t, s, 10333, s.Hour*2048+s.Minute*32+s.Second/2, api.OK)
	}
}

// parts are the six numbers of a stamp.
func parts(s *api.Stamp) []*int {
	return []*int{&s.Year, &s.Month, &s.Day, &s.Hour, &s.Minute, &s.Second}
}

func TestPackWrong(t *testing.T) { // P12.2: each number beside its bounds and far from them
	bounds := [][2]int{{1980, 2107}, {1, 12}, {1, 31}, {0, 23}, {0, 59}, {0, 59}}
	for i, b := range bounds {
		for _, v := range []int{b[0] - 1, b[1] + 1, b[0] - 100, b[1] + 100, -b[1] - 1, b[0] + 1<<32, b[0] - 1<<32, math.MinInt, math.MaxInt} {
			s := api.Stamp{Year: 2026, Month: 1, Day: 31, Hour: 12, Minute: 30, Second: 30}
			*parts(&s)[i] = v
			packs(t, s, 0, 0, api.ErrStamp)
		}
		for _, v := range b {
			s := api.Stamp{Year: 2026, Month: 1, Day: 31, Hour: 12, Minute: 30, Second: 30}
			*parts(&s)[i] = v
			if _, _, e := record.PackStamp(s); e != api.OK {
				t.Errorf("PackStamp(%v) = %d", s, e)
			}
		}
	}
	packs(t, api.Stamp{}, 0, 0, api.ErrStamp)
}

func TestUnpackDates(t *testing.T) { // P12.3, P12.4: each number that a date may be
	for date := range 65536 {
		s := api.Stamp{Year: 1980 + date>>9, Month: date >> 5 & 15, Day: date & 31}
		if s.Month < 1 || s.Month > 12 || s.Day < 1 || s.Day > daysOf(s.Year, s.Month) {
			unpacks(t, date, 0, api.Stamp{}, api.ErrStamp)
			continue
		}
		unpacks(t, date, 0, s, api.OK)
		packs(t, s, date, 0, api.OK)
	}
}

func TestUnpackClocks(t *testing.T) { // P12.3, P12.4: each number that a clock may be
	for clock := range 65536 {
		s := api.Stamp{Year: 1980, Month: 1, Day: 1, Hour: clock >> 11, Minute: clock >> 5 & 63, Second: clock & 31 * 2}
		if s.Hour > 23 || s.Minute > 59 || s.Second > 58 {
			unpacks(t, 33, clock, api.Stamp{}, api.ErrStamp)
			continue
		}
		unpacks(t, 33, clock, s, api.OK)
		packs(t, s, 33, clock, api.OK)
		s.Second++
		packs(t, s, 33, clock, api.OK)
	}
}

func TestUnpackWide(t *testing.T) { // P12.3: ErrArg is ahead of ErrStamp
	for _, wide := range []int{-1, 65536, 65536 + 33, -65536 + 33, 1<<32 + 33, math.MinInt, math.MaxInt} {
		for _, other := range []int{0, 1, 33, 30, 65535, -1, 65536} {
			unpacks(t, wide, other, api.Stamp{}, api.ErrArg)
			unpacks(t, other, wide, api.Stamp{}, api.ErrArg)
		}
	}
	unpacks(t, 65535, 65535, api.Stamp{}, api.ErrStamp)
}

// earlier tells whether a is ahead of b, by year, month, day, hour, minute, second.
func earlier(a, b api.Stamp) bool {
	for i, p := range parts(&a) {
		if q := parts(&b)[i]; *p != *q {
			return *p < *q
		}
	}
	return false
}

func TestStampOrder(t *testing.T) { // P12.4
	draw := rand.New(rand.NewSource(124))
	one := func() api.Stamp {
		s := api.Stamp{Year: 1980 + draw.Intn(128), Month: 1 + draw.Intn(12), Hour: draw.Intn(24), Minute: draw.Intn(60), Second: draw.Intn(60)}
		s.Day = 1 + draw.Intn(daysOf(s.Year, s.Month))
		return s
	}
	for range 20000 {
		a, b := one(), one()
		for i := range draw.Intn(7) { // the first numbers alike, so that the later ones decide
			if p := parts(&b)[i]; i != 2 || *parts(&a)[2] <= daysOf(b.Year, b.Month) {
				*p = *parts(&a)[i]
			}
		}
		if b.Day > daysOf(b.Year, b.Month) || a == b {
			continue
		}
		if earlier(b, a) {
			a, b = b, a
		}
		dateA, clockA, e := record.PackStamp(a)
		dateB, clockB, f := record.PackStamp(b)
		if e != api.OK || f != api.OK {
			t.Fatalf("PackStamp(%v), PackStamp(%v): %d, %d", a, b, e, f)
		}
		even, other := a, b
		even.Second, other.Second = a.Second/2*2, b.Second/2*2
		numberA, numberB := dateA*65536+clockA, dateB*65536+clockB
		if numberA > numberB || (numberA == numberB) != (even == other) {
			t.Fatalf("%v is %d, %v is %d", a, numberA, b, numberB)
		}
		unpacks(t, dateA, clockA, even, api.OK)
		unpacks(t, dateB, clockB, other, api.OK)
	}
}
