package request

import "strings"

// An extent tells how many bytes at the front of a text belong to something.
type extent func(s string) int

// cutter returns a function that remembers what is left of s, and cuts something off its front each time.
func cutter(s string) func(extent) string {
	return func(e extent) string {
		n := e(s)
		front := s[:n]
		s = s[n:]
		return front
	}
}

// blanks is the extent of the blanks in front.
func blanks(s string) int {
	return len(s) - len(strings.TrimLeft(s, " \t"))
}

// toBlank is the extent of a name or an expression, up to a blank or the end.
func toBlank(s string) int {
	if at := strings.IndexAny(s, " \t"); at >= 0 {
		return at
	}
	return len(s)
}

// one is the extent of a single byte, if there is any.
func one(s string) int {
	return min(1, len(s))
}

// whole is the extent of all that is left.
func whole(s string) int {
	return len(s)
}

// upTo returns the extent of what is ahead of the next byte c.
func upTo(c byte) extent {
	return func(s string) int {
		if at := strings.IndexByte(s, c); at >= 0 {
			return at
		}
		return len(s)
	}
}
