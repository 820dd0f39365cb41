// Package dates has what several layers do with the dates of messages.
package dates

import (
	"cubby/api"
	"cubby/stamp"
)

// None is the date of a message that was given none.
const None = " 1-Jan-1970 00:00:00 +0000"

// Same is a date as stamp prints it, and whether it is one.
func Same(date string) (string, bool) {
	t, e := stamp.Parse(date)
	if e != api.OK {
		return "", false
	}
	s, e := stamp.Print(t)
	return s, e == api.OK
}
