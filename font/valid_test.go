package font_test

import (
	"strings"
	"testing"

	"frisket/api"
	"frisket/font"
)

func TestValidFonts(t *testing.T) {
	for _, f := range []font.Font{
		small(),
		{Name: "X"},
		{Name: "X", Glyphs: []font.Glyph{}, Ligs: []font.Lig{}, Kerns: []font.Kern{}},
		full(400, 50, 500),
		full(399, 49, 499),
		changed(func(f *font.Font) { f.Special = false }),
	} {
		checkValid(t, f)
	}
}

func TestFontNames(t *testing.T) {
	for _, name := range []string{"a", "z", "A", "Z", "special", "font", "abcdefghij", "ABCDEFGHI9", "a0", "Z9", "h123456789"} {
		checkValid(t, font.Font{Name: name})
	}
	for _, name := range []string{"", "abcdefghijk", "1", "0a", "9", "a-", "a b", "a\n", "-a", " a", "a_", "a.b", "é", "aé", "`a", "{a", "@a", "[a", "a`", "a{", "a@", "a[", "a/", "a:", "a\x00", strings.Repeat("a", 5000)} {
		checkNotValid(t, font.Font{Name: name})
	}
}

func TestGlyphNames(t *testing.T) {
	for _, name := range []string{"a", "abcdefghij", "!", "~", "!~", "0123456789", "\\\"'`-+", "special"} {
		checkValid(t, bare(name))
	}
	for _, name := range []string{"", "abcdefghijk", " ", "\x7f", "a ", " a", "a b", "a\x7f", "\x7fa", "a\tb", "a\n", "é", "\x1f", "\x80", "\xff", "\x00", strings.Repeat("a", 5000)} {
		checkNotValid(t, bare(name))
	}
	for c := range 256 {
		for _, name := range []string{string([]byte{byte(c)}), "a" + string([]byte{byte(c)}) + "z"} {
			if got, want := font.Valid(bare(name)), c >= 33 && c <= 126; got != want {
				t.Errorf("a glyph named %q: valid %v", name, got)
			}
		}
	}
}

func TestGlyphsAscend(t *testing.T) {
	of := func(names ...string) font.Font {
		f := font.Font{Name: "X"}
		for _, name := range names {
			f.Glyphs = append(f.Glyphs, font.Glyph{Name: name, Width: 1})
		}
		return f
	}
	for _, f := range []font.Font{of("a", "b"), of("A", "a"), of("a", "aa", "b"), of("9", "A", "a", "~"), of("10", "9"), of("f", "ff", "fi", "fl", "g")} {
		checkValid(t, f)
	}
	for _, f := range []font.Font{of("a", "a"), of("b", "a"), of("a", "A"), of("aa", "a"), of("a", "b", "b"), of("a", "c", "b"), of("9", "10"), of("b", "c", "a")} {
		checkNotValid(t, f)
	}
	checkNotValid(t, changed(func(f *font.Font) { f.Glyphs[0].Name = "b" }))
	checkNotValid(t, font.Font{Name: "X", Glyphs: []font.Glyph{{Name: "a", Width: 1}, {Name: "a", Width: 2}}})
	checkNotValid(t, font.Font{Name: "X", Glyphs: []font.Glyph{{Name: "a", Width: 2}, {Name: "a", Width: 1}}})
}

func TestWidthsInRange(t *testing.T) {
	for _, n := range []int{0, 1, 2999, 3000} {
		checkValid(t, font.Font{Name: "X", Space: n})
		checkValid(t, changed(func(f *font.Font) { f.Glyphs[3].Width = n }))
		checkValid(t, changed(func(f *font.Font) { f.Glyphs[0].Width = n }))
	}
	for _, n := range []int{-1, 3001, -3000, 1 << 62, -1 << 63, 1 << 32} {
		checkNotValid(t, font.Font{Name: "X", Space: n})
		checkNotValid(t, changed(func(f *font.Font) { f.Glyphs[3].Width = n }))
		checkNotValid(t, changed(func(f *font.Font) { f.Glyphs[0].Width = n }))
	}
}

func TestHowMany(t *testing.T) {
	for _, f := range []font.Font{full(401, 0, 0), full(2000, 0, 0), full(40, 51, 0), full(40, 0, 501), full(40, 200, 0), full(40, 0, 900)} {
		checkNotValid(t, f)
	}
}

func TestLigatures(t *testing.T) {
	with := func(ligs ...font.Lig) font.Font {
		return changed(func(f *font.Font) { f.Ligs = ligs })
	}
	for _, f := range []font.Font{
		with(font.Lig{A: "a", B: "a", Is: "a"}),
		with(font.Lig{A: "c", B: "b", Is: "ab"}),
		with(font.Lig{A: "a", B: "c", Is: "a"}, font.Lig{A: "b", B: "a", Is: "a"}),
		with(font.Lig{A: "a", B: "b", Is: "c"}, font.Lig{A: "ab", B: "a", Is: "c"}),
		with(font.Lig{A: "a", B: "ab", Is: "c"}, font.Lig{A: "a", B: "b", Is: "c"}),
	} {
		checkValid(t, f)
	}
	for _, f := range []font.Font{
		with(font.Lig{A: "x", B: "a", Is: "a"}),
		with(font.Lig{A: "a", B: "x", Is: "a"}),
		with(font.Lig{A: "a", B: "a", Is: "x"}),
		with(font.Lig{A: "", B: "a", Is: "a"}),
		with(font.Lig{A: "a", B: "", Is: "a"}),
		with(font.Lig{A: "a", B: "a", Is: ""}),
		with(font.Lig{}),
		with(font.Lig{A: "a", B: "a", Is: "a"}, font.Lig{A: "a", B: "b", Is: "aa"}),
		with(font.Lig{A: "b", B: "a", Is: "a"}, font.Lig{A: "a", B: "c", Is: "a"}),
		with(font.Lig{A: "a", B: "b", Is: "a"}, font.Lig{A: "a", B: "a", Is: "a"}),
		with(font.Lig{A: "a", B: "b", Is: "a"}, font.Lig{A: "a", B: "b", Is: "a"}),
		with(font.Lig{A: "a", B: "b", Is: "a"}, font.Lig{A: "a", B: "b", Is: "b"}),
		with(font.Lig{A: "a", B: "b", Is: "b"}, font.Lig{A: "a", B: "b", Is: "a"}),
		with(font.Lig{A: "ab", B: "a", Is: "c"}, font.Lig{A: "a", B: "b", Is: "c"}),
	} {
		checkNotValid(t, f)
	}
}

func TestKerns(t *testing.T) {
	with := func(kerns ...font.Kern) font.Font {
		return changed(func(f *font.Font) { f.Kerns = kerns })
	}
	for _, by := range []int{-500, -499, -1, 1, 499, 500} {
		checkValid(t, with(font.Kern{A: "a", B: "a", By: by}))
	}
	for _, by := range []int{0, -501, 501, 3000, -3000, 1 << 62, -1 << 63} {
		checkNotValid(t, with(font.Kern{A: "a", B: "a", By: by}))
		checkNotValid(t, with(font.Kern{A: "a", B: "a", By: 1}, font.Kern{A: "a", B: "b", By: by}))
	}
	checkValid(t, with(font.Kern{A: "a", B: "c", By: 2}, font.Kern{A: "b", B: "a", By: 1}))
	checkValid(t, with(font.Kern{A: "a", B: "b", By: 2}, font.Kern{A: "ab", B: "a", By: 1}))
	for _, f := range []font.Font{
		with(font.Kern{A: "x", B: "a", By: 1}),
		with(font.Kern{A: "a", B: "x", By: 1}),
		with(font.Kern{A: "", B: "a", By: 1}),
		with(font.Kern{A: "a", B: "", By: 1}),
		with(font.Kern{A: "a", B: "a", By: 1}, font.Kern{A: "a", B: "bb", By: 1}),
		with(font.Kern{A: "b", B: "a", By: 1}, font.Kern{A: "a", B: "c", By: 1}),
		with(font.Kern{A: "a", B: "b", By: 1}, font.Kern{A: "a", B: "a", By: 1}),
		with(font.Kern{A: "a", B: "b", By: 1}, font.Kern{A: "a", B: "b", By: 1}),
		with(font.Kern{A: "a", B: "b", By: 1}, font.Kern{A: "a", B: "b", By: 2}),
		with(font.Kern{A: "a", B: "b", By: 2}, font.Kern{A: "a", B: "b", By: 1}),
		with(font.Kern{A: "ab", B: "a", By: 2}, font.Kern{A: "a", B: "b", By: 1}),
	} {
		checkNotValid(t, f)
	}
}

// TestGlyphGone takes each glyph away that ligatures and kerns need.
func TestGlyphGone(t *testing.T) {
	for i := range small().Glyphs {
		checkNotValid(t, changed(func(f *font.Font) { f.Glyphs = append(f.Glyphs[:i], f.Glyphs[i+1:]...) }))
	}
	checkNotValid(t, changed(func(f *font.Font) { f.Glyphs = nil }))
	checkNotValid(t, font.Font{})
}

func TestOrderOfErrors(t *testing.T) {
	bad := changed(func(f *font.Font) { f.Name = "" })
	for _, size := range []int{-1, 0, 1, 1000, 1001} {
		checkWidth(t, bad, "nowhere", size, 0, api.ErrArg)
	}
	for _, size := range []int{0, 1001, -1, -1 << 63, 1<<63 - 1} {
		checkWidth(t, small(), "nowhere", size, 0, api.ErrArg)
		checkWidth(t, small(), "a", size, 0, api.ErrArg)
		checkSpace(t, small(), size, 0, api.ErrArg)
		checkKerning(t, small(), "a", "b", size, 0, api.ErrArg)
		checkKerning(t, small(), "b", "b", size, 0, api.ErrArg)
		checkScale(t, 5, size, 0, api.ErrArg)
		checkScale(t, 3001, size, 0, api.ErrArg)
	}
	checkWidth(t, small(), "nowhere", 10, 0, api.ErrNone)
}
