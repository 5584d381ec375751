package glyph

import (
	"slices"
	"strings"

	"frisket/api"
	"frisket/font"
)

// tie is the name of a space at which no word ends.
const tie = "~"

// Width returns how far boxes go to the right.
func Width(l []api.Box) int {
	sum := 0
	for _, b := range l {
		switch b.Kind {
		case api.Glyph, api.Blank, api.Right, api.Stroke, api.Fixed:
			// Sums wrap around, so one that fits is right whatever came on the way to it.
			sum += b.Width
		}
	}
	return sum
}

// Split returns the words between spaces: one word more than spaces.
func Split(l []api.Box) [][]api.Box {
	words := [][]api.Box{nil}
	for _, b := range l {
		if b.Kind == api.Blank && b.Name != tie {
			words = append(words, nil)
			continue
		}
		last := len(words) - 1
		words[last] = append(words[last], copied(b))
	}
	return words
}

// Shift sets the glyphs and spaces of boxes in another size.
func Shift(l []api.Box, size int, fonts []font.Font) ([]api.Box, api.Errno) {
	if !isSize(size) || !areFonts(fonts) {
		return nil, api.ErrArg
	}
	var out []api.Box
	for _, b := range l {
		box, err := sized(copied(b), fonts, size)
		if err != api.OK {
			return nil, err
		}
		out = append(out, box)
	}
	return out, api.OK
}

// Text writes what boxes show as a text line would have it.
func Text(l []api.Box) string {
	var text strings.Builder
	for _, b := range l {
		switch b.Kind {
		case api.Glyph:
			text.WriteString(written(b.Name))
		case api.Blank, api.Fixed:
			text.WriteByte(' ')
		}
	}
	return text.String()
}

// written returns a glyph's name as a text has it.
func written(name string) string {
	if len(name) == 1 {
		return name
	}
	return `\[` + name + "]"
}

// copied returns a box that shares no memory with the one that was given.
func copied(b api.Box) api.Box {
	b.N = slices.Clone(b.N)
	return b
}
