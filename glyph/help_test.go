package glyph_test

import (
	"fmt"
	"slices"
	"strings"
	"testing"

	"frisket/api"
	"frisket/font"
	"frisket/glyph"
)

// The fonts of few, in their order.
const (
	mainFont = iota
	plainFont
	firstSpecial
	secondSpecial
)

// few lists fonts with something for each rule: two that are special, of which both have q.
func few() []font.Font {
	return []font.Font{
		{
			Name: "Main", Space: 250,
			Glyphs: []font.Glyph{{Name: "a", Width: 500}, {Name: "ab", Width: 900}, {Name: "abc", Width: 1234}, {Name: "b", Width: 400}, {Name: "c", Width: 333}, {Name: "d", Width: 0}},
			Ligs:   []font.Lig{{A: "a", B: "b", Is: "ab"}, {A: "ab", B: "c", Is: "abc"}, {A: "c", B: "c", Is: "c"}},
			Kerns:  []font.Kern{{A: "a", B: "c", By: -80}, {A: "a", B: "d", By: 5}, {A: "ab", B: "d", By: 120}, {A: "c", B: "b", By: -1}},
		},
		{
			Name: "Plain", Space: 300,
			Glyphs: []font.Glyph{{Name: "a", Width: 700}, {Name: "k", Width: 700}, {Name: "l", Width: 700}},
			Ligs:   []font.Lig{{A: "a", B: "k", Is: "l"}},
			Kerns:  []font.Kern{{A: "a", B: "l", By: 40}, {A: "k", B: "l", By: 40}},
		},
		{
			Name: "First", Special: true, Space: 100,
			Glyphs: []font.Glyph{{Name: "b", Width: 999}, {Name: "p", Width: 1000}, {Name: "pq", Width: 1500}, {Name: "q", Width: 600}},
			Ligs:   []font.Lig{{A: "p", B: "q", Is: "pq"}},
			Kerns:  []font.Kern{{A: "b", B: "q", By: 50}, {A: "p", B: "q", By: 100}},
		},
		{
			Name: "Second", Special: true, Space: 700,
			Glyphs: []font.Glyph{{Name: "q", Width: 10}, {Name: "r", Width: 20}},
			Kerns:  []font.Kern{{A: "q", B: "r", By: 300}, {A: "r", B: "r", By: 300}},
		},
	}
}

// plain is the style of the main font at size 10 that neither joins nor kerns.
func plain() glyph.Style {
	return glyph.Style{Size: 10}
}

func sameBox(a, b api.Box) bool {
	return a.Kind == b.Kind && a.Width == b.Width && a.Font == b.Font && a.Size == b.Size && a.Name == b.Name && a.Colour == b.Colour && slices.Equal(a.N, b.N)
}

func sameBoxes(a, b []api.Box) bool {
	return slices.EqualFunc(a, b, sameBox)
}

func sameWords(a, b [][]api.Box) bool {
	return slices.EqualFunc(a, b, sameBoxes)
}

func sameFonts(a, b []font.Font) bool {
	return slices.EqualFunc(a, b, font.Same)
}

func cloneBoxes(l []api.Box) []api.Box {
	out := slices.Clone(l)
	for i := range out {
		out[i].N = slices.Clone(out[i].N)
	}
	return out
}

// row writes boxes shortly: kind:name/font/size=width.
func row(l []api.Box) string {
	var parts []string
	for _, b := range l {
		parts = append(parts, fmt.Sprintf("%d:%s/%d/%d=%d", b.Kind, b.Name, b.Font, b.Size, b.Width))
	}
	return strings.Join(parts, " ")
}

// short cuts a text that may be long.
func short(s string) string {
	if len(s) > 300 {
		return s[:250] + ".. of " + fmt.Sprint(len(s)) + " bytes"
	}
	return s
}

// chars cuts a text at its blanks.
func chars(text string) []string {
	return strings.Fields(text)
}

// check asks Boxes of the few fonts; want is what row writes, lost the missing names with blanks between.
func check(t *testing.T, s glyph.Style, text string, pairs [][2]string, want, lost string) {
	t.Helper()
	checkOf(t, few(), s, text, pairs, want, lost)
}

func checkOf(t *testing.T, fonts []font.Font, s glyph.Style, text string, pairs [][2]string, want, lost string) {
	t.Helper()
	boxes, missing, err := glyph.Boxes(fonts, s, chars(text), pairs)
	if err != api.OK || row(boxes) != want || strings.Join(missing, " ") != lost {
		t.Errorf("Boxes of %q by %+v, %v:\n%s, missing %q, error %d, want\n%s, missing %q", text, s, pairs, row(boxes), missing, err, want, lost)
	}
	for _, b := range boxes {
		if b.Colour != "" || len(b.N) != 0 || b.Kind != api.Glyph && b.Kind != api.Right {
			t.Errorf("Boxes of %q: a box %+v", text, b)
		}
	}
}

// checkRefused asks Boxes for what is no style, char, pair or font.
func checkRefused(t *testing.T, what string, fonts []font.Font, s glyph.Style, chars []string, pairs [][2]string) {
	t.Helper()
	boxes, missing, err := glyph.Boxes(fonts, s, chars, pairs)
	if err != api.ErrArg || len(boxes) != 0 || len(missing) != 0 {
		t.Errorf("Boxes with %s: %s, missing %q, error %d", what, short(row(boxes)), missing, err)
	}
}

// checkTaken asks Boxes for something at a bound.
func checkTaken(t *testing.T, what string, fonts []font.Font, s glyph.Style, chars []string, pairs [][2]string) {
	t.Helper()
	boxes, missing, err := glyph.Boxes(fonts, s, chars, pairs)
	if err != api.OK || len(boxes)+len(missing) != len(chars) {
		t.Errorf("Boxes with %s: %d boxes, %d missing, error %d", what, len(boxes), len(missing), err)
	}
}

func checkShift(t *testing.T, l []api.Box, size int, fonts []font.Font, want []api.Box) {
	t.Helper()
	got, err := glyph.Shift(l, size, fonts)
	if err != api.OK || !sameBoxes(got, want) {
		t.Errorf("Shift of %+v to %d: %+v, error %d, want %+v", l, size, got, err, want)
	}
}

func checkNotShifted(t *testing.T, what string, l []api.Box, size int, fonts []font.Font) {
	t.Helper()
	got, err := glyph.Shift(l, size, fonts)
	if err != api.ErrArg || len(got) != 0 {
		t.Errorf("Shift of %s: %+v, error %d", what, got, err)
	}
}

// picker chooses the same numbers in each run.
type picker uint64

func (p *picker) below(n int) int {
	*p = *p*6364136223846793005 + 1442695040888963407
	return int(uint64(*p) >> 33 % uint64(n))
}

// texts returns up to most pieces.
func (p *picker) texts(most int, pieces ...string) []string {
	var out []string
	for range p.below(most + 1) {
		out = append(out, pieces[p.below(len(pieces))])
	}
	return out
}
