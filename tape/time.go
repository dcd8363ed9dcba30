package tape

import "valise/api"

const (
	minuteSeconds = 60
	hourSeconds   = 60 * minuteSeconds
	daySeconds    = 24 * hourSeconds

	firstYear = 1980
	earliest  = 315532800  // 1980-01-01 0:00:00
	latest    = 4354819198 // 2107-12-31 23:59:58
)

// secondsOf tells how many seconds a time is behind 1970-01-01 0:00:00; 0 where there is no time.
func secondsOf(s api.Stamp) int {
	if s == (api.Stamp{}) {
		return 0
	}
	return dayOf(s.Year, s.Month, s.Day)*daySeconds + s.Hour*hourSeconds + s.Minute*minuteSeconds + s.Second
}

// stampAt tells the time that is so many seconds behind 1970-01-01 0:00:00, or the nearest one that an archive keeps.
func stampAt(seconds int) api.Stamp {
	seconds = min(max(seconds, earliest), latest)
	day, rest := seconds/daySeconds, seconds%daySeconds
	year, month := firstYear, 1
	for dayOf(year+1, 1, 1) <= day {
		year++
	}
	for dayOf(year, month+1, 1) <= day {
		month++
	}
	return api.Stamp{
		Year: year, Month: month, Day: day - dayOf(year, month, 1) + 1,
		Hour: rest / hourSeconds, Minute: rest % hourSeconds / minuteSeconds, Second: rest % minuteSeconds,
	}
}

// dayOf tells how many days a day is behind 1970-01-01. The month 13 is the next year's first one.
func dayOf(year, month, day int) int {
	if month < 3 { // years are counted from March on: so the day that only some of them have is their last one
		year, month = year-1, month+12
	}
	leaps := year/4 - year/100 + year/400
	ahead := (153*month - 457) / 5 // days from March 1 up to the month: 31 30 31 30 31, over and over
	return 365*year + leaps + ahead + day - 719469
}
