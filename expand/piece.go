package expand

import (
	"strings"

	"frisket/api"
)

// The kinds of pieces. Those of which a Look is asked are named as it is asked for them.
const (
	kindStays    = 0 // a byte, or an escape of two bytes that is not interpolated
	kindRemark   = '"'
	kindNumber   = 'n'
	kindString   = '*'
	kindArgument = '$'
	kindWidth    = 'w'
)

// piece is what the beginning of a text is read as.
type piece struct {
	kind byte
	name string // of a width: its text
	step int
	size int // its bytes
}

// first reads the first piece of a text that is not empty. Of a malformed escape it is the \ alone.
func first(s string, copyMode bool) piece {
	if s[0] != '\\' || len(s) == 1 {
		return piece{size: 1}
	}
	switch s[1] {
	case kindRemark:
		return piece{kind: kindRemark, size: len(s)}
	case kindNumber, kindString, kindArgument:
		return named(s)
	case kindWidth:
		if !copyMode {
			return measured(s)
		}
	}
	return piece{size: 2}
}

// named reads an escape that has a name.
func named(s string) piece {
	kind, step, at := s[1], 0, 2
	if kind == kindNumber {
		step = stepAhead(s[at:])
	}
	if step != 0 {
		at++
	}
	name, size := nameAhead(s[at:])
	if size == 0 {
		return piece{size: 1}
	}
	return piece{kind: kind, name: name, step: step, size: at + size}
}

// stepAhead returns the step that a text's first byte asks for.
func stepAhead(s string) int {
	switch {
	case strings.HasPrefix(s, "+"):
		return 1
	case strings.HasPrefix(s, "-"):
		return -1
	}
	return 0
}

// nameAhead reads the name that a text begins with, and tells what it takes of it (0: there is none).
func nameAhead(s string) (name string, size int) {
	switch {
	case s == "":
		return "", 0
	case s[0] == '[':
		return bracketed(s)
	case s[0] == '(':
		if len(s) < 3 || !isShort(s[1]) || !isShort(s[2]) {
			return "", 0
		}
		return s[1:3], 3
	case isShort(s[0]):
		return s[:1], 1
	}
	return "", 0
}

// bracketed reads a name between brackets.
func bracketed(s string) (name string, size int) {
	// A ] further behind would end no name: the search for it is not worth its time.
	end := strings.IndexByte(s[:min(len(s), api.MaxName+2)], ']')
	if end < 2 {
		return "", 0
	}
	for i := 1; i < end; i++ {
		if !isVisible(s[i]) {
			return "", 0
		}
	}
	return s[1:end], end + 1
}

// isShort tells whether a byte can be a name's without brackets.
func isShort(b byte) bool {
	return isVisible(b) && strings.IndexByte("([+-", b) < 0
}

func isVisible(b byte) bool { return b >= 33 && b <= 126 }

// measured reads a \w with its text, which ends at the next byte that is its quote.
func measured(s string) piece {
	const from = 3 // behind the quote
	if len(s) < from || s[2] == '\\' {
		return piece{size: 1}
	}
	length := strings.IndexByte(s[from:], s[2])
	if length < 0 {
		return piece{size: 1}
	}
	return piece{kind: kindWidth, name: s[from : from+length], size: from + length + 1}
}
