package font

import (
	"strconv"
	"strings"

	"frisket/api"
)

// Write writes a font's description.
func Write(f Font) (string, api.Errno) {
	if !Valid(f) {
		return "", api.ErrArg
	}
	var b strings.Builder
	b.WriteString("font " + f.Name)
	if f.Special {
		b.WriteString(" special")
	}
	b.WriteString("\nspace " + strconv.Itoa(f.Space) + "\n")
	for _, g := range f.Glyphs {
		b.WriteString("g " + g.Name + " " + strconv.Itoa(g.Width) + "\n")
	}
	for _, l := range f.Ligs {
		b.WriteString("l " + l.A + " " + l.B + " " + l.Is + "\n")
	}
	for _, k := range f.Kerns {
		b.WriteString("k " + k.A + " " + k.B + " " + strconv.Itoa(k.By) + "\n")
	}
	return b.String(), api.OK
}

// Parse reads a font's description. What was read is written again: so nothing else is taken than what Write writes.
func Parse(s string) (Font, api.Errno) {
	f, is := read(s)
	if !is {
		return Font{}, api.ErrForm
	}
	if again, err := Write(f); err != api.OK || again != s {
		return Font{}, api.ErrForm
	}
	return f, api.OK
}

// read reads lines that look like those of a description, in any order.
func read(s string) (f Font, is bool) {
	for line := range strings.Lines(s) {
		if !take(&f, strings.Split(strings.TrimSuffix(line, "\n"), " ")) {
			return Font{}, false
		}
	}
	return f, true
}

// take adds to a font what the words of a line say.
func take(f *Font, words []string) bool {
	last := words[len(words)-1]
	n, err := strconv.Atoi(last)
	isNumber := err == nil
	switch kind := words[0]; {
	case kind == "font" && len(words) == 2:
		f.Name = last
	case kind == "font" && len(words) == 3 && last == "special":
		f.Name, f.Special = words[1], true
	case kind == "space" && len(words) == 2 && isNumber:
		f.Space = n
	case kind == "g" && len(words) == 3 && isNumber:
		f.Glyphs = append(f.Glyphs, Glyph{words[1], n})
	case kind == "l" && len(words) == 4:
		f.Ligs = append(f.Ligs, Lig{words[1], words[2], last})
	case kind == "k" && len(words) == 4 && isNumber:
		f.Kerns = append(f.Kerns, Kern{words[1], words[2], n})
	default:
		return false
	}
	return true
}
