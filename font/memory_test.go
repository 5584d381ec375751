package font_test

import (
	"testing"

	"frisket/api"
	"frisket/font"
)

// TestNothingIsChanged hands each function fonts with room behind their lists.
func TestNothingIsChanged(t *testing.T) {
	for _, f := range append(font.Standard(), small(), full(400, 50, 500), changed(func(f *font.Font) { f.Glyphs[0].Name = "z" })) {
		f.Glyphs = append(f.Glyphs, font.Glyph{Name: "behind"})[:len(f.Glyphs)]
		f.Ligs = append(f.Ligs, font.Lig{A: "behind"})[:len(f.Ligs)]
		f.Kerns = append(f.Kerns, font.Kern{A: "behind"})[:len(f.Kerns)]
		before := clone(f)
		font.Valid(f)
		font.Has(f, "a")
		font.Width(f, "a", 10)
		font.Space(f, 10)
		font.Join(f, "a", "b")
		font.Kerning(f, "a", "b", 10)
		font.Write(f)
		font.Same(f, f)
		font.Mono(f)
		behindGlyphs, behindLigs, behindKerns := f.Glyphs[:len(f.Glyphs)+1], f.Ligs[:len(f.Ligs)+1], f.Kerns[:len(f.Kerns)+1]
		if !same(f, before) || behindGlyphs[len(f.Glyphs)].Name != "behind" || behindLigs[len(f.Ligs)].A != "behind" || behindKerns[len(f.Kerns)].A != "behind" {
			t.Errorf("font %s was changed", f.Name)
		}
	}
}

// TestListsUpToTheirLength: what lies behind a list's end does not count.
func TestListsUpToTheirLength(t *testing.T) {
	f := small()
	f.Ligs, f.Kerns = nil, nil
	f.Glyphs = f.Glyphs[:2]
	checkValid(t, f)
	checkWidth(t, f, "b", 10, 0, api.ErrNone)
	if font.Has(f, "b") {
		t.Error("has a glyph behind the list's end")
	}
	g := font.Font{Name: "X", Space: 250, Special: true, Glyphs: append([]font.Glyph{}, f.Glyphs...)}
	if !font.Same(f, g) {
		t.Error("fonts differ behind their lists' ends")
	}
}

// TestParsedAnew: two fonts that were parsed share nothing.
func TestParsedAnew(t *testing.T) {
	first, _ := font.Parse(smallText)
	clear(first.Glyphs)
	clear(first.Ligs)
	clear(first.Kerns)
	checkParse(t, smallText, small())
}

// TestAgain: what a call returns hangs on its arguments alone.
func TestAgain(t *testing.T) {
	for range 3 {
		checkWidth(t, small(), "nowhere", 10, 0, api.ErrNone)
		checkMalformed(t, "font X\nspace 01\n")
		checkWidth(t, small(), "ab", 10, 33, api.OK)
		checkParse(t, smallText, small())
		checkJoin(t, small(), "a", "b", "ab", true)
	}
}
