package font

import (
	"cmp"
	"slices"
)

// The bounds of a font.
const (
	maxName   = 10
	maxWidth  = 3000
	maxBy     = 500
	maxGlyphs = 400
	maxLigs   = 50
	maxKerns  = 500
)

// Valid tells whether a font is one.
func Valid(f Font) bool {
	return isFontName(f.Name) && isWidth(f.Space) && validGlyphs(f.Glyphs) && validLigs(f) && validKerns(f)
}

func validGlyphs(glyphs []Glyph) bool {
	if len(glyphs) > maxGlyphs || !ascends(glyphs, byName) {
		return false
	}
	for _, g := range glyphs {
		if !isGlyphName(g.Name) || !isWidth(g.Width) {
			return false
		}
	}
	return true
}

// validLigs relies on glyphs that are valid.
func validLigs(f Font) bool {
	if len(f.Ligs) > maxLigs || !ascends(f.Ligs, ligOrder) {
		return false
	}
	for _, l := range f.Ligs {
		if !hasAll(f, l.A, l.B, l.Is) {
			return false
		}
	}
	return true
}

// validKerns relies on glyphs that are valid.
func validKerns(f Font) bool {
	if len(f.Kerns) > maxKerns || !ascends(f.Kerns, kernOrder) {
		return false
	}
	for _, k := range f.Kerns {
		if k.By < -maxBy || k.By > maxBy || k.By == 0 || !hasAll(f, k.A, k.B) {
			return false
		}
	}
	return true
}

// ascends tells whether each of a list comes behind the one ahead of it; so none is there twice.
func ascends[T any](list []T, order func(a, b T) int) bool {
	for i := 1; i < len(list); i++ {
		if order(list[i-1], list[i]) >= 0 {
			return false
		}
	}
	return true
}

func byName(a, b Glyph) int {
	return cmp.Compare(a.Name, b.Name)
}

func ligOrder(a, b Lig) int {
	return cmp.Or(cmp.Compare(a.A, b.A), cmp.Compare(a.B, b.B))
}

func kernOrder(a, b Kern) int {
	return cmp.Or(cmp.Compare(a.A, b.A), cmp.Compare(a.B, b.B))
}

// hasAll tells whether a font, whose glyphs ascend, has all of these.
func hasAll(f Font, names ...string) bool {
	for _, name := range names {
		if _, has := slices.BinarySearchFunc(f.Glyphs, Glyph{Name: name}, byName); !has {
			return false
		}
	}
	return true
}

func isWidth(n int) bool {
	return 0 <= n && n <= maxWidth
}

func isFontName(name string) bool {
	if name == "" || len(name) > maxName || !isLetter(name[0]) {
		return false
	}
	for i := range len(name) {
		if !isLetter(name[i]) && !isDigit(name[i]) {
			return false
		}
	}
	return true
}

func isGlyphName(name string) bool {
	if name == "" || len(name) > maxName {
		return false
	}
	for i := range len(name) {
		if name[i] < 33 || name[i] > 126 {
			return false
		}
	}
	return true
}

func isLetter(c byte) bool {
	return 'a' <= c && c <= 'z' || 'A' <= c && c <= 'Z'
}

func isDigit(c byte) bool {
	return '0' <= c && c <= '9'
}
