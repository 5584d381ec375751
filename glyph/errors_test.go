package glyph_test

import (
	"fmt"
	"testing"

	"frisket/api"
	"frisket/font"
	"frisket/glyph"
)

// badNames lists what can be neither a char nor in a pair.
func badNames() []string {
	return []string{"", "12345678901", " ", "a b", " a", "a ", "a\n", "\t", "\x00", "\x1f", "\x7f", "\x80", "\u00e4", "\xff", "123456789\x20"}
}

// badFonts lists fonts that are not valid, each in its own way.
func badFonts() []font.Font {
	return []font.Font{
		{},
		{Name: "1"},
		{Name: "X", Space: -1},
		{Name: "X", Glyphs: []font.Glyph{{Name: "b"}, {Name: "a"}}},
		{Name: "X", Glyphs: []font.Glyph{{Name: "a", Width: 3001}}},
		{Name: "X", Special: true, Ligs: []font.Lig{{A: "a", B: "b", Is: "c"}}},
		{Name: "X", Special: true, Glyphs: []font.Glyph{{Name: "a"}}, Kerns: []font.Kern{{A: "a", B: "a"}}},
	}
}

func TestStylesThatAreNone(t *testing.T) {
	for _, s := range []glyph.Style{
		{Font: -1, Size: 10}, {Font: 4, Size: 10}, {Font: 1 << 40, Size: 10}, {Font: -1 << 63, Size: 10},
		{Size: 0}, {Size: 1001}, {Size: -1}, {Size: -10}, {Size: 1<<63 - 1}, {Size: -1 << 63}, {},
	} {
		for _, c := range [][]string{nil, {"a"}, {"?"}} {
			checkRefused(t, fmt.Sprintf("%+v", s), few(), s, c, nil)
		}
	}
	checkTaken(t, "the last font", few(), glyph.Style{Font: 3, Size: 10}, []string{"a"}, nil)
	checkTaken(t, "size 1", few(), glyph.Style{Size: 1}, []string{"a"}, nil)
	checkTaken(t, "size 1000", few(), glyph.Style{Size: 1000}, []string{"a"}, nil)
}

func TestNoFonts(t *testing.T) {
	checkRefused(t, "no fonts", nil, plain(), []string{"a"}, nil)
	checkRefused(t, "no fonts", []font.Font{}, plain(), nil, nil)
	checkRefused(t, "no fonts", nil, glyph.Style{Font: -1, Size: 10}, nil, nil)
}

func TestFontsThatAreNone(t *testing.T) {
	for i, bad := range badFonts() {
		for at := range few() {
			fonts := few()
			fonts[at] = bad
			for own := range fonts {
				s := glyph.Style{Font: own, Size: 10, Ligs: true, Kerns: true}
				what := fmt.Sprintf("the bad font %d at %d", i, at)
				checkRefused(t, what, fonts, s, []string{"a", "b"}, nil)
				checkRefused(t, what, fonts, s, nil, nil)
			}
		}
		checkRefused(t, "a bad font alone", []font.Font{bad}, plain(), []string{"a"}, nil)
	}
}

func TestCharsThatAreNone(t *testing.T) {
	for _, bad := range badNames() {
		what := fmt.Sprintf("the char %q", bad)
		checkRefused(t, what, few(), plain(), []string{bad}, nil)
		checkRefused(t, what, few(), plain(), []string{bad, "a"}, nil)
		checkRefused(t, what, few(), plain(), []string{"a", "b", bad}, nil)
		// A pair does not mend it.
		checkRefused(t, what, few(), plain(), []string{bad}, [][2]string{{bad, "a"}})
		checkRefused(t, what, few(), plain(), []string{bad}, [][2]string{{"a", "b"}})
	}
	for _, good := range []string{"!", "~", "1234567890", "\\", "\"", "(", "[]"} {
		checkTaken(t, fmt.Sprintf("the char %q", good), few(), plain(), []string{good}, nil)
	}
}

func TestPairsThatAreNone(t *testing.T) {
	for _, bad := range badNames() {
		for _, pair := range [][2]string{{bad, "a"}, {"a", bad}, {bad, bad}} {
			what := fmt.Sprintf("the pair %q", pair)
			checkRefused(t, what, few(), plain(), []string{"a"}, [][2]string{pair})
			checkRefused(t, what, few(), plain(), nil, [][2]string{{"a", "b"}, pair})
			checkRefused(t, what, few(), plain(), []string{"b"}, [][2]string{{"b", "b"}, pair, {"b", "a"}})
		}
	}
	checkTaken(t, "pairs of good names", few(), plain(), []string{"a"}, [][2]string{{"1234567890", "~"}, {"!", "1234567890"}})
}

// TestShiftRefuses sizes, fonts, and glyphs and spaces without a font.
func TestShiftRefuses(t *testing.T) {
	a := api.Box{Kind: api.Glyph, Name: "a", Size: 10, Width: 50}
	for _, size := range []int{0, 1001, -1, 1 << 40, -1 << 63} {
		what := fmt.Sprintf("size %d", size)
		checkNotShifted(t, what, []api.Box{a}, size, few())
		checkNotShifted(t, what, nil, size, few())
		checkNotShifted(t, what, nil, size, nil)
		checkNotShifted(t, what, []api.Box{{Kind: api.Right, Width: 1}}, size, few())
	}
	for i, bad := range badFonts() {
		for at := range few() {
			fonts := few()
			fonts[at] = bad
			what := fmt.Sprintf("bad font %d at %d", i, at)
			checkNotShifted(t, what, []api.Box{a}, 10, fonts)
			checkNotShifted(t, what, nil, 10, fonts)
		}
	}
	for _, b := range []api.Box{
		{Name: "a", Font: -1}, {Name: "a", Font: 4}, {Name: "a", Font: 1 << 40}, {Name: "a", Font: -1 << 63},
		{Name: "k"}, {Name: ""}, {Name: "q", Font: 1}, {Name: "a", Font: 3}, {Name: "ab c"},
		{Kind: api.Blank, Font: -1}, {Kind: api.Blank, Font: 4}, {Kind: api.Blank, Font: 4, Name: "~"},
	} {
		what := fmt.Sprintf("%+v", b)
		checkNotShifted(t, what, []api.Box{b}, 10, few())
		checkNotShifted(t, what, []api.Box{a, b, a}, 10, few())
		checkNotShifted(t, what, []api.Box{a, a, b}, 10, few())
	}
	checkNotShifted(t, "a glyph without fonts", []api.Box{a}, 10, nil)
	checkNotShifted(t, "a space without fonts", []api.Box{{Kind: api.Blank}}, 10, nil)
}
