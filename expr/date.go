package expr

import "coffret/api"

// In milliseconds.
const (
	second = 1000
	minute = 60 * second
	hour   = 60 * minute
	day    = 24 * hour
)

func dateOperator(name string) operator {
	of := datePart(name)
	if of == nil {
		return nil
	}
	return just(func(l []api.Value) (api.Value, api.Errno) { return number(of(l[0].Int)), api.OK }, dates)
}

// datePart tells a part of a date; nil: there is no such operator.
func datePart(name string) func(ms int) int {
	switch name {
	case "$year":
		return func(ms int) int { year, _, _ := calendar(ms); return year }
	case "$month":
		return func(ms int) int { _, month, _ := calendar(ms); return month }
	case "$day":
		return func(ms int) int { _, _, of := calendar(ms); return of }
	case "$hour":
		return func(ms int) int { return within(ms, day) / hour }
	case "$minute":
		return func(ms int) int { return within(ms, hour) / minute }
	case "$second":
		return func(ms int) int { return within(ms, minute) / second }
	case "$milli":
		return func(ms int) int { return within(ms, second) }
	case "$weekday":
		return func(ms int) int { return within(whole(ms, day)+firstWeekday, 7) }
	}
	return nil
}

// firstWeekday is that of January 1, 1970: a Thursday.
const firstWeekday = 4

// whole is how often b goes into a, rounded down; b is above 0.
func whole(a, b int) int {
	if a%b < 0 {
		return a/b - 1
	}
	return a / b
}

// within is what is left of a then: from 0 on, below b.
func within(a, b int) int {
	return (a%b + b) % b
}

// In days. Years are reckoned from March on here: the day that not each year has is the last one then.
const (
	yearDays    = 365
	fourYears   = 4*yearDays + 1
	century     = 25*fourYears - 1
	fourHundred = 4*century + 1
	sinceMarch0 = 719468 // from March 1 of the year 0 to January 1, 1970
	fiveMonths  = 153    // from March to July, and from August to December
)

// calendar is the year, the month and the day of the month of a date.
func calendar(ms int) (year, month, dayOf int) {
	days := whole(ms, day) + sinceMarch0
	rest := within(days, fourHundred)
	centuries := min(rest/century, 3) // the last day of the four hundred years is within the fourth century
	rest -= centuries * century
	fours := rest / fourYears
	rest -= fours * fourYears
	years := min(rest/yearDays, 3) // likewise
	rest -= years * yearDays
	year = 400*whole(days, fourHundred) + 100*centuries + 4*fours + years
	month = (5*rest + 2) / fiveMonths // 0: March
	dayOf = rest - (fiveMonths*month+2)/5 + 1
	if month >= 10 {
		return year + 1, month - 9, dayOf
	}
	return year, month + 3, dayOf
}
