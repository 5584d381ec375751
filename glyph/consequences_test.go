package glyph_test

import (
	"fmt"
	"math/big"
	"slices"
	"strings"
	"testing"

	"frisket/api"
	"frisket/font"
	"frisket/glyph"
)

// units is the width of thousandths at a size, reckoned apart from package font.
func units(n, size int) int {
	quotient := new(big.Int).Mul(big.NewInt(int64(n)), big.NewInt(int64(10*size)))
	return int(quotient.Div(quotient, big.NewInt(1000)).Int64())
}

func glyphOf(f font.Font, name string) (font.Glyph, bool) {
	for _, g := range f.Glyphs {
		if g.Name == name {
			return g, true
		}
	}
	return font.Glyph{}, false
}

// model sets chars step by step, as the chapter tells it, and writes what row writes.
func model(fonts []font.Font, s glyph.Style, chars []string, pairs [][2]string) (string, string) {
	var names []string
	for _, char := range chars {
		names = append(names, first(char, pairs))
	}
	if s.Ligs {
		names = ligatures(fonts[s.Font], names)
	}
	order := []int{s.Font}
	for i, f := range fonts {
		if f.Special {
			order = append(order, i)
		}
	}
	var boxes, lost []string
	lastName, lastFont := "", -1
	for _, name := range names {
		at := slices.IndexFunc(order, func(i int) bool { _, has := glyphOf(fonts[i], name); return has })
		if at < 0 {
			lost = append(lost, name)
			continue
		}
		f := fonts[order[at]]
		for _, k := range f.Kerns {
			if by := units(k.By, s.Size); s.Kerns && lastFont == order[at] && k.A == lastName && k.B == name && by != 0 {
				boxes = append(boxes, fmt.Sprintf("2:/0/0=%d", by))
			}
		}
		g, _ := glyphOf(f, name)
		boxes = append(boxes, fmt.Sprintf("0:%s/%d/%d=%d", name, order[at], s.Size, units(g.Width, s.Size)))
		lastName, lastFont = name, order[at]
	}
	return strings.Join(boxes, " "), strings.Join(lost, " ")
}

// first translates by the first pair.
func first(char string, pairs [][2]string) string {
	for _, pair := range pairs {
		if pair[0] == char {
			return pair[1]
		}
	}
	return char
}

// ligatures joins the char at the front with the next one as long as it can.
func ligatures(f font.Font, names []string) []string {
	if len(names) < 2 {
		return names
	}
	for _, l := range f.Ligs {
		if l.A == names[0] && l.B == names[1] {
			return ligatures(f, append([]string{l.Is}, names[2:]...))
		}
	}
	return append([]string{names[0]}, ligatures(f, names[1:])...)
}

func TestRandomChars(t *testing.T) {
	p := picker(8)
	names := chars("a a a b b c c d ab k l p q r ? x")
	for range 3000 {
		s := glyph.Style{Font: p.below(4), Size: []int{1, 7, 10, 19, 20, 100, 999, 1000}[p.below(8)], Ligs: p.below(3) > 0, Kerns: p.below(3) > 0}
		text := p.texts(12, names...)
		var pairs [][2]string
		for range p.below(4) {
			pairs = append(pairs, [2]string{names[p.below(len(names))], names[p.below(len(names))]})
		}
		want, lost := model(few(), s, text, pairs)
		check(t, s, strings.Join(text, " "), pairs, want, lost)
	}
}

// TestWidthIsSum of P8.3: the widths of the glyphs, and of the kerns between them.
func TestWidthIsSum(t *testing.T) {
	p := picker(9)
	for range 500 {
		s := glyph.Style{Font: p.below(4), Size: 1 + p.below(1000), Ligs: true, Kerns: true}
		boxes, _, _ := glyph.Boxes(few(), s, p.texts(20, chars("a b c d ab k l p q r ?")...), nil)
		sum, last := 0, api.Box{Font: -1}
		for _, b := range boxes {
			if b.Kind == api.Right {
				continue
			}
			width, err := font.Width(few()[b.Font], b.Name, s.Size)
			if err != api.OK {
				t.Fatal(b, err)
			}
			sum += width
			if b.Font == last.Font {
				by, _ := font.Kerning(few()[b.Font], last.Name, b.Name, s.Size)
				sum += by
			}
			last = b
		}
		if got := glyph.Width(boxes); got != sum {
			t.Errorf("Width of %s: %d, want %d", row(boxes), got, sum)
		}
	}
}

// TestRowsOneBehindTheOther of P8.3.
func TestRowsOneBehindTheOther(t *testing.T) {
	p := picker(10)
	for range 500 {
		s := glyph.Style{Font: p.below(4), Size: 1 + p.below(1000)}
		pairs := [][2]string{{"a", "b"}, {"b", "c"}, {"k", "?"}}[:p.below(4)]
		one, two := p.texts(8, chars("a b c d ab k p q r ?")...), p.texts(8, chars("a b c d ab k p q r ?")...)
		first, lostFirst, _ := glyph.Boxes(few(), s, one, pairs)
		second, lostSecond, _ := glyph.Boxes(few(), s, two, pairs)
		both, lost, err := glyph.Boxes(few(), s, append(one, two...), pairs)
		if err != api.OK || !sameBoxes(both, append(first, second...)) || !slices.Equal(lost, append(lostFirst, lostSecond...)) {
			t.Errorf("Boxes of %q and %q: %s, missing %q, error %d", one, two, row(both), lost, err)
		}
	}
}

// TestSplitJoined of P8.3: with a space between any two words the text is the same.
func TestSplitJoined(t *testing.T) {
	p := picker(11)
	for range 500 {
		var l, joined []api.Box
		for range p.below(12) {
			l = append(l, append(shapes(), api.Box{Kind: api.Blank, Width: 25})[p.below(9)])
		}
		words := glyph.Split(l)
		spaces := 0
		for _, b := range l {
			if b.Kind == api.Blank && b.Name != "~" {
				spaces++
			}
		}
		for i, word := range words {
			if i > 0 {
				joined = append(joined, api.Box{Kind: api.Blank})
			}
			joined = append(joined, word...)
		}
		if glyph.Text(joined) != glyph.Text(l) || len(words) != spaces+1 {
			t.Errorf("Split of %+v: %+v", l, words)
		}
	}
}

// TestNothingIsChanged hands each function lists with room behind them.
func TestNothingIsChanged(t *testing.T) {
	fonts := append(few(), font.Font{Name: "behind"})[:4]
	text := append(chars("a b c x p"), "behind")[:5]
	pairs := append([][2]string{{"x", "a"}, {"p", "q"}}, [2]string{"behind"})[:2]
	boxes := append(shapes(), api.Box{Name: "behind"})[:8]
	boxes[5].N = append([]int{1, 2}, 99)[:2]
	wantBoxes := cloneBoxes(boxes)
	for range 2 {
		glyph.Boxes(fonts, glyph.Style{Size: 10, Ligs: true, Kerns: true}, text, pairs)
		glyph.Width(boxes)
		glyph.Split(boxes)
		glyph.Shift(boxes, 20, fonts)
		glyph.Text(boxes)
		for _, b := range boxes {
			glyph.Valid(b)
		}
	}
	if !sameFonts(fonts, few()) || fonts[:5][4].Name != "behind" {
		t.Error("the fonts were changed")
	}
	if !slices.Equal(text[:6], chars("a b c x p behind")) || !slices.Equal(pairs[:3], [][2]string{{"x", "a"}, {"p", "q"}, {"behind"}}) {
		t.Error("chars or pairs were changed:", text[:6], pairs[:3])
	}
	if !sameBoxes(boxes, wantBoxes) || boxes[:9][8].Name != "behind" || boxes[5].N[:3][2] != 99 {
		t.Error("the boxes were changed:", boxes)
	}
}

// TestResultsAreNew: what is done to one result reaches neither an argument nor another result.
func TestResultsAreNew(t *testing.T) {
	s := glyph.Style{Size: 10}
	for range 2 {
		text := chars("a x b")
		l, lost, _ := glyph.Boxes(few(), s, text, nil)
		if row(l) != "0:a/0/10=50 0:b/0/10=40" || !slices.Equal(lost, []string{"x"}) || !slices.Equal(text, chars("a x b")) {
			t.Error(row(l), lost, text)
		}
		clear(l)
		clear(lost)
	}
	given := shapes()
	for range 2 {
		shifted, _ := glyph.Shift(given, 10, few())
		words := glyph.Split(given)
		if len(shifted) != 8 || len(words) != 2 || !sameBoxes(words[1], shapes()[2:]) {
			t.Fatal(shifted, words)
		}
		clear(shifted[5].N)
		clear(words[1][3].N)
		clear(shifted)
		clear(words[1])
	}
	if !sameBoxes(given, shapes()) {
		t.Error("the boxes were changed:", given)
	}
	// Words of one result lie apart: what is put behind one does not reach the next.
	words := glyph.Split([]api.Box{{Name: "a"}, {Kind: api.Blank}, {Name: "b"}})
	_ = append(words[0], api.Box{Name: "x"})
	_ = append(words[0][:1], api.Box{Name: "x"}, api.Box{Name: "y"})
	if words[1][0].Name != "b" {
		t.Error("words share their memory")
	}
}
