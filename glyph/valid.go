package glyph

import (
	"slices"

	"frisket/api"
	"frisket/font"
)

// The bounds of what is set, and of boxes.
const (
	maxSize    = 1000
	maxChars   = 2000
	maxPairs   = 100
	maxName    = 10
	maxColour  = 20
	maxNumbers = 40
	maxNumber  = 1000000
)

// Valid tells whether a box is one, with nothing in the fields that its kind has not.
func Valid(b api.Box) bool {
	if !isNumber(b.Width) || b.Font < 0 || b.Size < 0 {
		return false
	}
	switch b.Kind {
	case api.Glyph:
		return isName(b.Name, maxName) && isColour(b.Colour) && len(b.N) == 0
	case api.Blank:
		return (b.Name == "" || b.Name == tie) && b.Colour == "" && len(b.N) == 0
	case api.Right, api.Under, api.Fixed:
		return isBare(b)
	case api.Stroke:
		return isLetter(b.Name) && isColour(b.Colour) && areNumbers(b.N) && b.Font == 0 && b.Size == 0
	case api.Point:
		return isBare(b) && b.Width == 0
	}
	return false
}

// isBare tells whether a box has nothing but a Kind and a Width.
func isBare(b api.Box) bool {
	return b.Font == 0 && b.Size == 0 && b.Name == "" && b.Colour == "" && len(b.N) == 0
}

// isLetter tells whether a name is that of a stroke.
func isLetter(name string) bool {
	switch name {
	case "l", "c", "e", "a", "~":
		return true
	}
	return false
}

func isColour(name string) bool {
	return name == "" || isName(name, maxColour)
}

// isName tells whether a name has from 1 to limit bytes, all of which may be in names.
func isName(name string, limit int) bool {
	if name == "" || len(name) > limit {
		return false
	}
	for i := range len(name) {
		if name[i] < 33 || name[i] > 126 {
			return false
		}
	}
	return true
}

func areNumbers(list []int) bool {
	return len(list) <= maxNumbers && !slices.ContainsFunc(list, func(n int) bool { return !isNumber(n) })
}

func isNumber(n int) bool {
	return -maxNumber <= n && n <= maxNumber
}

func isSize(size int) bool {
	return 1 <= size && size <= maxSize
}

func areFonts(fonts []font.Font) bool {
	return !slices.ContainsFunc(fonts, func(f font.Font) bool { return !font.Valid(f) })
}

func isStyle(s Style, fonts []font.Font) bool {
	return 0 <= s.Font && s.Font < len(fonts) && isSize(s.Size)
}

func areChars(chars []string) bool {
	return len(chars) <= maxChars && !slices.ContainsFunc(chars, func(name string) bool { return !isName(name, maxName) })
}

func arePairs(pairs [][2]string) bool {
	if len(pairs) > maxPairs {
		return false
	}
	for _, pair := range pairs {
		if !isName(pair[0], maxName) || !isName(pair[1], maxName) {
			return false
		}
	}
	return true
}
