package font

import (
	"slices"
	"strings"
)

// Standard returns the fonts R, I, B, M and S.
func Standard() []Font {
	return []Font{
		{Name: "R", Space: 250, Glyphs: withLigs(romanGlyphs(0), 550), Ligs: romanLigs(), Kerns: romanKerns()},
		{Name: "I", Space: 250, Glyphs: romanGlyphs(-20)},
		{Name: "B", Space: 250, Glyphs: withLigs(romanGlyphs(50), 600), Ligs: romanLigs()},
		{Name: "M", Space: 600, Glyphs: bytesOf(func(byte) int { return 600 })},
		{Name: "S", Special: true, Space: 250, Glyphs: symbols()},
	}
}

// bytesOf lists the glyphs that are named by one byte.
func bytesOf(width func(c byte) int) []Glyph {
	var glyphs []Glyph
	for c := byte(33); c <= 126; c++ {
		glyphs = append(glyphs, Glyph{string(rune(c)), width(c)})
	}
	return glyphs
}

// romanGlyphs lists the glyphs of one byte of R, each wider by so much.
func romanGlyphs(wider int) []Glyph {
	return bytesOf(func(c byte) int { return max(0, romanWidth(c)+wider) })
}

// romanWidth is the width of a byte in R.
func romanWidth(c byte) int {
	switch {
	case strings.IndexByte("ijltf.,:;'|!`", c) >= 0:
		return 250
	case strings.IndexByte(`()[]{}-rs/\"`, c) >= 0:
		return 350
	case c == 'm' || c == 'w':
		return 750
	case strings.IndexByte("MW@%", c) >= 0:
		return 900
	case 'A' <= c && c <= 'Z':
		return 650
	}
	return 500
}

// withLigs puts the ligatures' glyphs, all of one width, into their places among others.
func withLigs(glyphs []Glyph, width int) []Glyph {
	for _, l := range romanLigs() {
		glyphs = append(glyphs, Glyph{l.Is, width})
	}
	slices.SortFunc(glyphs, byName)
	return glyphs
}

func romanLigs() []Lig {
	return []Lig{{"f", "f", "ff"}, {"f", "i", "fi"}, {"f", "l", "fl"}}
}

func romanKerns() []Kern {
	return []Kern{{"A", "V", -80}, {"A", "W", -60}, {"T", "o", -70}, {"V", "A", -80}, {"Y", "o", -90}}
}

// symbols lists the glyphs of S.
func symbols() []Glyph {
	glyphs := []Glyph{
		{"bu", 460}, {"em", 1000}, {"en", 500}, {"hy", 350}, {"sq", 600},
		{"mu", 600}, {"di", 600}, {"pl", 600}, {"mi", 600}, {"eq", 600},
		{"<=", 600}, {">=", 600}, {"!=", 600}, {"->", 1000}, {"<-", 1000},
		{"sr", 500}, {"is", 400}, {"su", 700}, {"pd", 700}, {"if", 700},
		{"*a", 550}, {"*b", 550}, {"*g", 500}, {"*d", 500}, {"*p", 600}, {"*l", 550}, {"*s", 600}, {"*w", 700},
		{"co", 800}, {"dg", 500}, {"sc", 500}, {"rh", 1000}, {"br", 10}, {"ul", 500}, {"ru", 500},
	}
	slices.SortFunc(glyphs, byName)
	return glyphs
}
