package hyphen

import (
	"slices"
	"strings"

	"frisket/api"
)

// The bounds of words, patterns and lists of them.
const (
	maxWord    = 60
	maxPattern = 15 // letters
	maxList    = 2000
	maxBound   = 10
)

// Pattern tells whether a text is a pattern; one without digits is one, too.
func Pattern(s string) bool {
	inner := strings.TrimSuffix(strings.TrimPrefix(s, "."), ".")
	letters := 0
	for i := range len(inner) {
		switch {
		case isSmall(inner[i]):
			letters++
		case !isDigit(inner[i]) || i > 0 && isDigit(inner[i-1]):
			return false
		}
	}
	return 1 <= letters && letters <= maxPattern
}

// Exception tells whether a text is an exception.
func Exception(s string) bool {
	_, _, err := Read(s)
	return err == api.OK && s == strings.ToLower(s)
}

// listError tells what keeps lists from being looked through.
func listError(patterns, exceptions []string) api.Errno {
	if len(patterns) > maxList || len(exceptions) > maxList {
		return api.ErrLimit
	}
	if !areAll(patterns, Pattern) || !areAll(exceptions, Exception) {
		return api.ErrForm
	}
	return api.OK
}

func areAll(list []string, is func(s string) bool) bool {
	return !slices.ContainsFunc(list, func(s string) bool { return !is(s) })
}

// isWord tells whether a text is a word, in capital letters or small ones.
func isWord(s string) bool {
	for i := range len(s) {
		if !isSmall(s[i]) && !isCapital(s[i]) {
			return false
		}
	}
	return 1 <= len(s) && len(s) <= maxWord
}

// arePlaces tells whether places ascend, each between two letters of so many.
func arePlaces(places []int, letters int) bool {
	last := 0
	for _, place := range places {
		if place <= last || place >= letters {
			return false
		}
		last = place
	}
	return true
}

func isBound(n int) bool {
	return 1 <= n && n <= maxBound
}

// isDigit tells whether a byte is a digit of a pattern: 0 is none.
func isDigit(c byte) bool {
	return '1' <= c && c <= '9'
}

func isSmall(c byte) bool {
	return 'a' <= c && c <= 'z'
}

func isCapital(c byte) bool {
	return 'A' <= c && c <= 'Z'
}
