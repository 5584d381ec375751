package glyph_test

import (
	"strings"
	"testing"

	"frisket/api"
	"frisket/font"
	"frisket/glyph"
)

// TestExample of the chapter: f, i of R with Ligs is one box fi.
func TestExample(t *testing.T) {
	checkOf(t, font.Standard(), glyph.Style{Size: 10, Ligs: true}, "f i", nil, "0:fi/0/10=55", "")
}

func TestBoxesOfOneFont(t *testing.T) {
	check(t, plain(), "", nil, "", "")
	check(t, plain(), "a", nil, "0:a/0/10=50", "")
	check(t, plain(), "a b c d", nil, "0:a/0/10=50 0:b/0/10=40 0:c/0/10=33 0:d/0/10=0", "")
	check(t, plain(), "ab abc ab", nil, "0:ab/0/10=90 0:abc/0/10=123 0:ab/0/10=90", "")
	check(t, glyph.Style{Font: plainFont, Size: 10}, "a k", nil, "0:a/1/10=70 0:k/1/10=70", "")
}

func TestSizes(t *testing.T) {
	check(t, glyph.Style{Size: 1}, "a c abc", nil, "0:a/0/1=5 0:c/0/1=3 0:abc/0/1=12", "")
	check(t, glyph.Style{Size: 7}, "c", nil, "0:c/0/7=23", "")
	check(t, glyph.Style{Size: 1000}, "a c q", nil, "0:a/0/1000=5000 0:c/0/1000=3330 0:q/2/1000=6000", "")
}

func TestSpecialFonts(t *testing.T) {
	check(t, plain(), "p q r", nil, "0:p/2/10=100 0:q/2/10=60 0:r/3/10=2", "")
	// The style's font is asked first, whether it is special or not.
	check(t, plain(), "b", nil, "0:b/0/10=40", "")
	check(t, glyph.Style{Font: plainFont, Size: 10}, "b", nil, "0:b/2/10=99", "")
	check(t, glyph.Style{Font: secondSpecial, Size: 10}, "q b p", nil, "0:q/3/10=1 0:b/2/10=99 0:p/2/10=100", "")
	check(t, glyph.Style{Font: firstSpecial, Size: 10}, "q r", nil, "0:q/2/10=60 0:r/3/10=2", "")
	// Fonts that are neither special nor the style's are not asked.
	check(t, plain(), "k l", nil, "", "k l")
	check(t, glyph.Style{Font: plainFont, Size: 10}, "k d", nil, "0:k/1/10=70", "d")
	checkOf(t, few()[:1], plain(), "a q", nil, "0:a/0/10=50", "q")
	checkOf(t, few()[2:], plain(), "q r", nil, "0:q/0/10=60 0:r/1/10=2", "")
}

// TestSpecialFontAhead: a special font is asked wherever it stands.
func TestSpecialFontAhead(t *testing.T) {
	fonts := few()
	fonts[0], fonts[3] = fonts[3], fonts[0]
	checkOf(t, fonts, glyph.Style{Font: 3, Size: 10}, "a q b p", nil, "0:a/3/10=50 0:q/0/10=1 0:b/3/10=40 0:p/2/10=100", "")
	checkOf(t, fonts, glyph.Style{Font: 1, Size: 10}, "q", nil, "0:q/0/10=1", "")
}

func TestMissing(t *testing.T) {
	check(t, plain(), "?", nil, "", "?")
	check(t, plain(), "y x a z x b y", nil, "0:a/0/10=50 0:b/0/10=40", "y x z x y")
	check(t, plain(), "?? A \\ ~~~~~~~~~~", nil, "", "?? A \\ ~~~~~~~~~~")
}

func TestTranslation(t *testing.T) {
	pairs := [][2]string{{"a", "b"}, {"b", "c"}, {"a", "d"}, {"x", "q"}, {"c", "nowhere"}, {"??", "abc"}}
	// Once, and by the first pair.
	check(t, plain(), "a", pairs, "0:b/0/10=40", "")
	check(t, plain(), "a b x d", pairs, "0:b/0/10=40 0:c/0/10=33 0:q/2/10=60 0:d/0/10=0", "")
	// What is missing is told by the name that is looked for.
	check(t, plain(), "c nowhere ??", pairs, "0:abc/0/10=123", "nowhere nowhere")
	check(t, plain(), "y x", [][2]string{{"x", "y"}}, "", "y y")
	check(t, plain(), "a b", [][2]string{{"a", "b"}, {"b", "a"}}, "0:b/0/10=40 0:a/0/10=50", "")
	check(t, plain(), "a", [][2]string{{"a", "a"}, {"a", "b"}}, "0:a/0/10=50", "")
	check(t, plain(), "", pairs, "", "")
	// A pair is asked for all of a name.
	check(t, plain(), "ab a", [][2]string{{"a", "d"}, {"A", "b"}}, "0:ab/0/10=90 0:d/0/10=0", "")
}

func TestLigatures(t *testing.T) {
	s := glyph.Style{Size: 10, Ligs: true}
	check(t, s, "a b", nil, "0:ab/0/10=90", "")
	check(t, s, "a b c", nil, "0:abc/0/10=123", "")
	check(t, s, "ab c", nil, "0:abc/0/10=123", "")
	check(t, s, "a b a b c a", nil, "0:ab/0/10=90 0:abc/0/10=123 0:a/0/10=50", "")
	check(t, s, "b a", nil, "0:b/0/10=40 0:a/0/10=50", "")
	check(t, s, "a a b", nil, "0:a/0/10=50 0:ab/0/10=90", "")
	// As long as something joins; from the left.
	check(t, s, "c c c c c", nil, "0:c/0/10=33", "")
	check(t, s, "a b c c", nil, "0:abc/0/10=123 0:c/0/10=33", "")
	check(t, s, "a c c b", nil, "0:a/0/10=50 0:c/0/10=33 0:b/0/10=40", "")
	// Off.
	check(t, plain(), "a b c", nil, "0:a/0/10=50 0:b/0/10=40 0:c/0/10=33", "")
	check(t, glyph.Style{Size: 10, Kerns: true}, "a b", nil, "0:a/0/10=50 0:b/0/10=40", "")
}

func TestLigaturesOfOtherFonts(t *testing.T) {
	s := glyph.Style{Size: 10, Ligs: true}
	check(t, s, "p q", nil, "0:p/2/10=100 0:q/2/10=60", "")
	check(t, s, "a k", nil, "0:a/0/10=50", "k")
	s.Font = plainFont
	check(t, s, "a k", nil, "0:l/1/10=70", "")
	check(t, s, "a b", nil, "0:a/1/10=70 0:b/2/10=99", "")
	s.Font = firstSpecial
	check(t, s, "p q", nil, "0:pq/2/10=150", "")
}

func TestLigaturesAndTranslation(t *testing.T) {
	s := glyph.Style{Size: 10, Ligs: true}
	check(t, s, "x y", [][2]string{{"x", "a"}, {"y", "b"}}, "0:ab/0/10=90", "")
	check(t, s, "a b", [][2]string{{"b", "c"}}, "0:a/0/10=50 0:c/0/10=33", "")
	check(t, s, "x c", [][2]string{{"x", "ab"}}, "0:abc/0/10=123", "")
	// A ligature is not translated.
	check(t, s, "a b", [][2]string{{"ab", "d"}}, "0:ab/0/10=90", "")
}

func TestWhatPartsLigatures(t *testing.T) {
	s := glyph.Style{Size: 10, Ligs: true}
	check(t, s, "a ? b", nil, "0:a/0/10=50 0:b/0/10=40", "?")
	check(t, s, "a b ? c", nil, "0:ab/0/10=90 0:c/0/10=33", "?")
	check(t, s, "a q b", nil, "0:a/0/10=50 0:q/2/10=60 0:b/0/10=40", "")
	check(t, s, "? a b ?", nil, "0:ab/0/10=90", "? ?")
}

func TestKerns(t *testing.T) {
	s := glyph.Style{Size: 10, Kerns: true}
	check(t, s, "a c", nil, "0:a/0/10=50 2:/0/0=-8 0:c/0/10=33", "")
	check(t, s, "a c a c", nil, "0:a/0/10=50 2:/0/0=-8 0:c/0/10=33 0:a/0/10=50 2:/0/0=-8 0:c/0/10=33", "")
	check(t, s, "a c b", nil, "0:a/0/10=50 2:/0/0=-8 0:c/0/10=33 2:/0/0=-1 0:b/0/10=40", "")
	check(t, s, "ab d", nil, "0:ab/0/10=90 2:/0/0=12 0:d/0/10=0", "")
	// Pairs that have none.
	check(t, s, "c a", nil, "0:c/0/10=33 0:a/0/10=50", "")
	check(t, s, "a a b b", nil, "0:a/0/10=50 0:a/0/10=50 0:b/0/10=40 0:b/0/10=40", "")
	check(t, s, "a", nil, "0:a/0/10=50", "")
	// Off.
	check(t, plain(), "a c", nil, "0:a/0/10=50 0:c/0/10=33", "")
	check(t, glyph.Style{Size: 10, Ligs: true}, "a c", nil, "0:a/0/10=50 0:c/0/10=33", "")
}

func TestKernsAtSizes(t *testing.T) {
	s := glyph.Style{Kerns: true}
	for _, c := range []struct {
		size int
		text string
		want string
	}{
		{1, "a d", "0:a/0/1=5 0:d/0/1=0"},
		{19, "a d", "0:a/0/19=95 0:d/0/19=0"},
		{20, "a d", "0:a/0/20=100 2:/0/0=1 0:d/0/20=0"},
		{1, "c b", "0:c/0/1=3 2:/0/0=-1 0:b/0/1=4"},
		{1, "a c", "0:a/0/1=5 2:/0/0=-1 0:c/0/1=3"},
		{1000, "a c", "0:a/0/1000=5000 2:/0/0=-800 0:c/0/1000=3330"},
	} {
		s.Size = c.size
		check(t, s, c.text, nil, c.want, "")
	}
}

func TestKernsOfFonts(t *testing.T) {
	s := glyph.Style{Size: 10, Kerns: true}
	// Of a special font.
	check(t, s, "p q", nil, "0:p/2/10=100 2:/0/0=10 0:q/2/10=60", "")
	check(t, s, "r r", nil, "0:r/3/10=2 2:/0/0=30 0:r/3/10=2", "")
	// Of two fonts: q r have a kern in the second special font, but q is taken from the first; likewise b q.
	check(t, s, "q r", nil, "0:q/2/10=60 0:r/3/10=2", "")
	check(t, s, "b q", nil, "0:b/0/10=40 0:q/2/10=60", "")
	s.Font = secondSpecial
	check(t, s, "q r", nil, "0:q/3/10=1 2:/0/0=30 0:r/3/10=2", "")
	s.Font = plainFont
	check(t, s, "b q", nil, "0:b/2/10=99 2:/0/0=5 0:q/2/10=60", "")
	check(t, s, "a l", nil, "0:a/1/10=70 2:/0/0=4 0:l/1/10=70", "")
}

func TestKernsOverMissing(t *testing.T) {
	s := glyph.Style{Size: 10, Kerns: true}
	check(t, s, "a ? c", nil, "0:a/0/10=50 2:/0/0=-8 0:c/0/10=33", "?")
	check(t, s, "? a ? ?? c ?", nil, "0:a/0/10=50 2:/0/0=-8 0:c/0/10=33", "? ? ?? ?")
	check(t, s, "p k q", nil, "0:p/2/10=100 2:/0/0=10 0:q/2/10=60", "k")
	// A glyph of another font is a box, so nothing is looked at over it.
	check(t, s, "a q c", nil, "0:a/0/10=50 0:q/2/10=60 0:c/0/10=33", "")
}

func TestKernsOfLigatures(t *testing.T) {
	s := glyph.Style{Size: 10, Ligs: true, Kerns: true}
	check(t, s, "a b d", nil, "0:ab/0/10=90 2:/0/0=12 0:d/0/10=0", "")
	check(t, s, "a b c b", nil, "0:abc/0/10=123 0:b/0/10=40", "")
	check(t, s, "a x y", [][2]string{{"x", "c"}, {"y", "b"}}, "0:a/0/10=50 2:/0/0=-8 0:c/0/10=33 2:/0/0=-1 0:b/0/10=40", "")
	s.Ligs = false
	check(t, s, "a b d", nil, "0:a/0/10=50 0:b/0/10=40 0:d/0/10=0", "")
}

func TestStandardFonts(t *testing.T) {
	s := glyph.Style{Size: 12, Ligs: true, Kerns: true}
	checkOf(t, font.Standard(), s, "A V bu fi f l", nil, "0:A/0/12=78 2:/0/0=-10 0:V/0/12=78 0:bu/4/12=55 0:fi/0/12=66 0:fl/0/12=66", "")
	s.Font = 1
	checkOf(t, font.Standard(), s, "f i fi A V", nil, "0:f/1/12=27 0:i/1/12=27 0:A/1/12=75 0:V/1/12=75", "fi")
}

// TestBoundsOfChars and pairs: as many as there may be.
func TestBoundsOfChars(t *testing.T) {
	many := strings.Split(strings.Repeat("a", 2000), "")
	checkTaken(t, "2000 chars", few(), plain(), many, nil)
	checkRefused(t, "2001 chars", few(), plain(), append(many, "a"), nil)
	pairs := make([][2]string, 100)
	for i := range pairs {
		pairs[i] = [2]string{"x", "b"}
	}
	pairs[99] = [2]string{"a", "c"}
	check(t, plain(), "a x", pairs, "0:c/0/10=33 0:b/0/10=40", "")
	checkRefused(t, "101 pairs", few(), plain(), []string{"a"}, append(pairs, [2]string{"a", "b"}))
	checkRefused(t, "101 pairs and no chars", few(), plain(), nil, append(pairs, [2]string{"a", "b"}))
	if boxes, missing, err := glyph.Boxes(few(), plain(), []string{}, [][2]string{}); len(boxes) != 0 || len(missing) != 0 || err != api.OK {
		t.Error("Boxes of empty lists:", boxes, missing, err)
	}
}
