package record

import "valise/api"

const (
	firstYear = 1980
	lastYear  = 2107
)

// monthDays has the days of each month, in a year without a 29th of February.
var monthDays = [12]int{31, 28, 31, 30, 31, 30, 31, 31, 30, 31, 30, 31}

// PackStamp tells a time as the two numbers that records hold.
func PackStamp(s api.Stamp) (date, clock int, e api.Errno) {
	if !mayBe(s) {
		return 0, 0, api.ErrStamp
	}
	date = (s.Year-firstYear)*512 + s.Month*32 + s.Day
	clock = s.Hour*2048 + s.Minute*32 + s.Second/2
	return date, clock, api.OK
}

// UnpackStamp tells the time that two numbers say.
func UnpackStamp(date, clock int) (api.Stamp, api.Errno) {
	if date < 0 || date > 65535 || clock < 0 || clock > 65535 {
		return api.Stamp{}, api.ErrArg
	}
	s := api.Stamp{
		Year: firstYear + date/512, Month: date / 32 % 16, Day: date % 32,
		Hour: clock / 2048, Minute: clock / 32 % 64, Second: clock % 32 * 2,
	}
	if !mayBe(s) {
		return api.Stamp{}, api.ErrStamp
	}
	return s, api.OK
}

// mayBe tells whether there is such a time, and an archive can keep it.
func mayBe(s api.Stamp) bool {
	return within(s.Year, firstYear, lastYear) && within(s.Month, 1, 12) && within(s.Day, 1, days(s.Year, s.Month)) &&
		within(s.Hour, 0, 23) && within(s.Minute, 0, 59) && within(s.Second, 0, 59)
}

// within tells whether v is one of the numbers from least up to most.
func within(v, least, most int) bool { return least <= v && v <= most }

// days tells how many days a month has in a year that archives keep.
func days(year, month int) int {
	if month == 2 && year%4 == 0 && year != 2100 { // of these years only 2100 is one that 4 divides and that has no 29th of February
		return 29
	}
	return monthDays[month-1]
}
