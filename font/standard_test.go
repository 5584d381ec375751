package font_test

import (
	"fmt"
	"slices"
	"testing"

	"frisket/api"
	"frisket/font"
)

// roman lists what the chapter says of the widths of R, byte by byte.
func roman() map[string]int {
	widths := map[string]int{}
	for c := 33; c <= 126; c++ {
		widths[string(rune(c))] = 500
	}
	for c := 'A'; c <= 'Z'; c++ {
		widths[string(c)] = 650
	}
	put := func(width int, names ...string) {
		for _, name := range names {
			widths[name] = width
		}
	}
	put(250, "i", "j", "l", "t", "f", ".", ",", ":", ";", "'", "|", "!", "\x60")
	put(350, "(", ")", "[", "]", "{", "}", "-", "r", "s", "/", "\\", "\"")
	put(750, "m", "w")
	put(900, "M", "W", "@", "%")
	return widths
}

func withRoman(add int, more map[string]int) map[string]int {
	widths := roman()
	for name := range widths {
		widths[name] += add
	}
	for name, width := range more {
		widths[name] = width
	}
	return widths
}

func symbols() map[string]int {
	return map[string]int{
		"bu": 460, "em": 1000, "en": 500, "hy": 350, "sq": 600, "mu": 600, "di": 600, "pl": 600, "mi": 600, "eq": 600,
		"<=": 600, ">=": 600, "!=": 600, "->": 1000, "<-": 1000, "sr": 500, "is": 400, "su": 700, "pd": 700, "if": 700,
		"*a": 550, "*b": 550, "*g": 500, "*d": 500, "*p": 600, "*l": 550, "*s": 600, "*w": 700,
		"co": 800, "dg": 500, "sc": 500, "rh": 1000, "br": 10, "ul": 500, "ru": 500,
	}
}

func typewriter() map[string]int {
	widths := roman()
	for name := range widths {
		widths[name] = 600
	}
	return widths
}

func TestStandardFonts(t *testing.T) {
	ligs := []font.Lig{{A: "f", B: "f", Is: "ff"}, {A: "f", B: "i", Is: "fi"}, {A: "f", B: "l", Is: "fl"}}
	kerns := []font.Kern{{A: "A", B: "V", By: -80}, {A: "A", B: "W", By: -60}, {A: "T", B: "o", By: -70}, {A: "V", B: "A", By: -80}, {A: "Y", B: "o", By: -90}}
	joined := func(width int) map[string]int { return map[string]int{"ff": width, "fi": width, "fl": width} }
	want := []struct {
		name    string
		special bool
		space   int
		widths  map[string]int
		ligs    []font.Lig
		kerns   []font.Kern
	}{
		{"R", false, 250, withRoman(0, joined(550)), ligs, kerns},
		{"I", false, 250, withRoman(-20, nil), nil, nil},
		{"B", false, 250, withRoman(50, joined(600)), ligs, nil},
		{"M", false, 600, typewriter(), nil, nil},
		{"S", true, 250, symbols(), nil, nil},
	}
	got := font.Standard()
	if len(got) != len(want) {
		t.Fatalf("%d fonts", len(got))
	}
	for i, w := range want {
		f := got[i]
		if f.Name != w.name || f.Special != w.special || f.Space != w.space || !slices.Equal(f.Ligs, w.ligs) || !slices.Equal(f.Kerns, w.kerns) {
			t.Errorf("font %d: %s, special %v, space %d, %v, %v", i, f.Name, f.Special, f.Space, f.Ligs, f.Kerns)
		}
		checkGlyphs(t, f, w.widths)
		checkValid(t, f)
	}
}

func checkGlyphs(t *testing.T, f font.Font, want map[string]int) {
	t.Helper()
	names := []string{}
	for _, g := range f.Glyphs {
		names = append(names, g.Name)
		if width, is := want[g.Name]; !is || g.Width != width {
			t.Errorf("%s of %s: %d, want %d (it is one: %v)", g.Name, f.Name, g.Width, width, is)
		}
	}
	if len(names) != len(want) || !slices.IsSorted(names) {
		t.Errorf("names of %s: %d, want %d: %q", f.Name, len(names), len(want), names)
	}
}

func TestStandardAnew(t *testing.T) {
	first := font.Standard()
	before := fmt.Sprint(first)
	for i := range first {
		for k := range first[i].Glyphs {
			first[i].Glyphs[k] = font.Glyph{}
		}
		clear(first[i].Ligs)
		clear(first[i].Kerns)
		if i == 0 && (first[2].Ligs[0].A != "f" || font.Standard()[0].Ligs[0].A != "f") {
			t.Error("fonts share their ligatures")
		}
	}
	clear(first)
	if after := fmt.Sprint(font.Standard()); after != before {
		t.Error("a later call returns what was changed")
	}
}

func TestStandardWidths(t *testing.T) {
	l := font.Standard()
	checkWidth(t, l[1], "i", 10, 23, api.OK)
	checkWidth(t, l[1], "fi", 10, 0, api.ErrNone)
	checkWidth(t, l[2], "fi", 10, 60, api.OK)
	checkWidth(t, l[3], "fi", 10, 0, api.ErrNone)
	checkWidth(t, l[4], "br", 9, 0, api.OK)
	checkWidth(t, l[4], "br", 10, 1, api.OK)
	checkWidth(t, l[4], "a", 10, 0, api.ErrNone)
	checkJoin(t, l[0], "f", "f", "ff", true)
	checkJoin(t, l[2], "f", "l", "fl", true)
	checkJoin(t, l[1], "f", "i", "", false)
	checkJoin(t, l[0], "ff", "i", "", false)
	checkKerning(t, l[0], "Y", "o", 10, -9, api.OK)
	checkKerning(t, l[0], "V", "A", 1, -1, api.OK)
	checkKerning(t, l[1], "A", "V", 10, 0, api.OK)
	checkKerning(t, l[2], "A", "V", 10, 0, api.OK)
}
