package request

import (
	"strings"

	"frisket/api"
)

// Cond is a condition: its Kind is a letter, ' (two texts) or x (an expression).
type Cond struct {
	Not         bool
	Kind        byte
	Name        string
	Left, Right string
	Rest        string // all behind the condition and blanks
}

// Condition takes a condition, and what is behind it, apart.
func Condition(s string) (Cond, api.Errno) {
	if !isLine(s) {
		return Cond{}, api.ErrArg
	}
	cut := cutter(s)
	cut(blanks)
	turned := len(cut(turns))%2 == 1
	c, ok := read(cut)
	if !ok {
		return Cond{}, api.ErrForm
	}
	c.Not = turned
	cut(blanks)
	c.Rest = cut(whole)
	return c, api.OK
}

// read takes off what is asked behind every !; false: it is malformed.
func read(cut func(extent) string) (Cond, bool) {
	switch kind := cut(kindByte); kind {
	case "":
		c := Cond{Kind: 'x', Name: cut(toBlank)}
		return c, c.Name != ""
	case "o", "e", "t", "n":
		return Cond{Kind: kind[0]}, true
	case "d", "r":
		c := Cond{Kind: kind[0], Name: cut(toBlank)}
		return c, c.Name != ""
	default:
		return readTexts(cut, kind[0])
	}
}

// readTexts takes off two texts, each with the quote behind it.
func readTexts(cut func(extent) string, quote byte) (Cond, bool) {
	c := Cond{Kind: '\''}
	c.Left = cut(upTo(quote))
	cut(one)
	c.Right = cut(upTo(quote))
	// The second quote is missing where the first one is.
	return c, cut(one) != ""
}

// turns is the extent of each ! in front.
func turns(s string) int {
	return len(s) - len(strings.TrimLeft(s, "!"))
}

// kindByte is the extent of the byte that tells a condition's kind; an expression has none.
func kindByte(s string) int {
	if s == "" || strings.IndexByte("oetndr", s[0]) < 0 && !canQuote(s[0]) {
		return 0
	}
	return 1
}

// canQuote tells whether a byte can stand around the two texts.
func canQuote(c byte) bool {
	return !isLetter(c) && !isDigit(c) && !isBlank(c) && strings.IndexByte(`(+-.|!\`, c) < 0
}
