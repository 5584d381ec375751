package hyphen

import "strings"

// standard lists the standard patterns, in their order.
const standard = "1ba 1be 1bi 1bo 1bu 1ca 1ce 1ci 1co 1cu 1da 1de 1di 1do 1du 1fa 1fe 1fi 1fo 1fu 1ga 1ge 1gi 1go 1gu " +
	"1la 1le 1li 1lo 1lu 1ma 1me 1mi 1mo 1mu 1na 1ne 1ni 1no 1nu 1pa 1pe 1pi 1po 1pu 1ra 1re 1ri 1ro 1ru " +
	"1sa 1se 1si 1so 1su 1ta 1te 1ti 1to 1tu 1va 1ve 1vi 1vo n1d n1t r1t l1t s1t2 2ed. 2es. .un1 .re1 t2io 4le. 2ght 1tion"

// Standard returns the standard patterns.
func Standard() []string {
	return strings.Fields(standard)
}

// values relies on a word in small letters and on patterns that are ones.
func values(word string, patterns []string) []int {
	text := "." + word + "."
	greatest := make([]int, len(text)+1)
	for _, pattern := range patterns {
		for at := range len(text) {
			if fits(pattern, text[at:]) {
				raise(greatest[at:], pattern)
			}
		}
	}
	// No digit stands ahead of the first . or behind the last one.
	return greatest[1:len(text)]
}

// fits tells whether a text begins with what a pattern has beside its digits.
func fits(pattern, text string) bool {
	at := 0
	for i := range len(pattern) {
		if isDigit(pattern[i]) {
			continue
		}
		if at == len(text) || text[at] != pattern[i] {
			return false
		}
		at++
	}
	return true
}

// raise raises values to the digits of a pattern that fits where they begin.
func raise(values []int, pattern string) {
	at := 0
	for i := range len(pattern) {
		if !isDigit(pattern[i]) {
			at++
			continue
		}
		values[at] = max(values[at], int(pattern[i]-'0'))
	}
}
