package font_test

import (
	"math/big"
	"testing"

	"frisket/api"
	"frisket/font"
)

func TestExamples(t *testing.T) {
	r := font.Standard()[0]
	checkWidth(t, r, "m", 10, 75, api.OK)
	checkKerning(t, r, "A", "V", 12, -10, api.OK)
}

func TestWidth(t *testing.T) {
	f := small()
	checkWidth(t, f, "a", 1, 5, api.OK)
	checkWidth(t, f, "a", 1000, 5000, api.OK)
	checkWidth(t, f, "ab", 10, 33, api.OK)
	checkWidth(t, f, "ab", 1, 3, api.OK)
	checkWidth(t, f, "b", 14, 0, api.OK)
	checkWidth(t, f, "b", 15, 1, api.OK)
	checkWidth(t, f, "c", 1000, 0, api.OK)
	for _, glyph := range []string{"", "d", "A", "a ", "abc", "ligature", "\x00", "abcdefghijklm"} {
		checkWidth(t, f, glyph, 10, 0, api.ErrNone)
	}
	checkWidth(t, font.Font{Name: "X"}, "a", 10, 0, api.ErrNone)
	checkWidth(t, font.Font{Name: "X", Glyphs: []font.Glyph{{Name: "a", Width: 3000}}}, "a", 1000, 30000, api.OK)
	last := full(400, 0, 0)
	checkWidth(t, last, "g399", 10, 39, api.OK)
	checkWidth(t, last, "g000", 10, 0, api.OK)
}

func TestSpace(t *testing.T) {
	checkSpace(t, small(), 10, 25, api.OK)
	checkSpace(t, small(), 1, 2, api.OK)
	checkSpace(t, small(), 1000, 2500, api.OK)
	checkSpace(t, font.Font{Name: "X"}, 1000, 0, api.OK)
	checkSpace(t, font.Font{Name: "X", Space: 3000}, 1000, 30000, api.OK)
	checkSpace(t, font.Font{Name: "X", Space: 99}, 1, 0, api.OK)
}

func TestKerning(t *testing.T) {
	f := small()
	checkKerning(t, f, "a", "b", 10, -8, api.OK)
	checkKerning(t, f, "a", "b", 12, -10, api.OK)
	checkKerning(t, f, "a", "b", 1, -1, api.OK)
	checkKerning(t, f, "a", "c", 10, 1, api.OK)
	checkKerning(t, f, "a", "c", 6, 0, api.OK)
	checkKerning(t, f, "c", "a", 1, -1, api.OK)
	checkKerning(t, f, "c", "a", 100, -1, api.OK)
	checkKerning(t, f, "c", "a", 101, -2, api.OK)
	for _, none := range [][2]string{{"b", "a"}, {"a", "a"}, {"c", "b"}, {"", ""}, {"a", ""}, {"nowhere", "a"}, {"a", "nowhere"}, {"b", "c"}} {
		checkKerning(t, f, none[0], none[1], 10, 0, api.OK)
	}
	wide := changed(func(f *font.Font) {
		f.Kerns = []font.Kern{{A: "a", B: "a", By: -500}, {A: "a", B: "b", By: 500}}
	})
	checkKerning(t, wide, "a", "a", 1000, -5000, api.OK)
	checkKerning(t, wide, "a", "b", 1000, 5000, api.OK)
}

func TestJoin(t *testing.T) {
	f := small()
	checkJoin(t, f, "a", "a", "c", true)
	checkJoin(t, f, "a", "b", "ab", true)
	checkJoin(t, f, "b", "a", "b", true)
	for _, none := range [][2]string{{"b", "b"}, {"c", "a"}, {"a", "c"}, {"", ""}, {"a", ""}, {"", "a"}, {"nowhere", "a"}, {"ab", "a"}} {
		checkJoin(t, f, none[0], none[1], "", false)
	}
	f.Space = -1
	checkJoin(t, f, "a", "b", "", false)
}

func TestScale(t *testing.T) {
	for _, c := range []struct{ n, size, want int }{
		{0, 10, 0}, {1000, 10, 100}, {750, 10, 75}, {-80, 12, -10}, {-96, 10, -10}, {-100, 10, -10}, {-101, 10, -11},
		{1, 1, 0}, {99, 1, 0}, {100, 1, 1}, {-1, 1, -1}, {-99, 1, -1}, {-100, 1, -1}, {-101, 1, -2},
		{3000, 1000, 30000}, {-3000, 1000, -30000}, {3000, 1, 30}, {-3000, 1, -30}, {-2999, 1, -30}, {2999, 1, 29},
	} {
		checkScale(t, c.n, c.size, c.want, api.OK)
	}
	for _, n := range []int{3001, -3001, 1 << 62, -1 << 63, 1<<63 - 1} {
		for _, size := range []int{1, 10, 1000} {
			checkScale(t, n, size, 0, api.ErrRange)
		}
	}
}

// TestScaleExactly holds Scale against a division of long numbers that rounds down.
func TestScaleExactly(t *testing.T) {
	for n := -3000; n <= 3000; n += 7 {
		for size := 1; size <= 1000; size += 13 {
			product := new(big.Int).Mul(big.NewInt(int64(n)), big.NewInt(int64(10*size)))
			want := new(big.Int).Div(product, big.NewInt(1000)) // rounds down for a divisor above 0
			checkScale(t, n, size, int(want.Int64()), api.OK)
		}
	}
}

// TestWidthsGrow: widths never shrink as sizes grow.
func TestWidthsGrow(t *testing.T) {
	for _, f := range append(font.Standard(), small()) {
		for _, g := range f.Glyphs[:4] {
			before := 0
			for size := 1; size <= 1000; size++ {
				got, err := font.Width(f, g.Name, size)
				if err != api.OK || got < before || got != g.Width*size/100 {
					t.Fatalf("Width of %s of %s at %d: %d, error %d, ahead %d", g.Name, f.Name, size, got, err, before)
				}
				before = got
			}
		}
	}
}

func TestHas(t *testing.T) {
	for _, glyph := range []string{"a", "ab", "b", "c"} {
		if !font.Has(small(), glyph) {
			t.Errorf("has not %q", glyph)
		}
	}
	for _, glyph := range []string{"", "d", "A", "abc", "a "} {
		if font.Has(small(), glyph) {
			t.Errorf("has %q", glyph)
		}
	}
	// Fonts that are not valid are looked at, too.
	bad := font.Font{Glyphs: []font.Glyph{{Name: "z", Width: -1}, {Name: "a"}, {Name: ""}, {Name: "m"}, {Name: "a b"}}}
	for _, glyph := range []string{"z", "a", "", "m", "a b"} {
		if !font.Has(bad, glyph) {
			t.Errorf("not valid: has not %q", glyph)
		}
	}
	if font.Has(bad, "b") || font.Has(font.Font{}, "") || font.Has(font.Font{}, "a") {
		t.Error("has what it has not")
	}
	if long := full(401, 0, 0); !font.Has(long, "g400") || font.Has(long, "g401") {
		t.Error("of 401 glyphs")
	}
}

func TestMono(t *testing.T) {
	of := func(space int, widths ...int) font.Font {
		f := font.Font{Name: "X", Space: space}
		for i, width := range widths {
			f.Glyphs = append(f.Glyphs, font.Glyph{Name: string(rune('a' + i)), Width: width})
		}
		return f
	}
	for _, f := range []font.Font{of(0), of(250), of(5, 5), of(5, 5, 5, 5), of(0, 0), of(3000, 3000, 3000)} {
		if !font.Mono(f) {
			t.Errorf("not of one width: %v", f)
		}
	}
	for _, f := range []font.Font{of(5, 6), of(5, 5, 6), of(5, 6, 5), of(5, 6, 6), of(6, 5, 5, 5), of(0, 1)} {
		if font.Mono(f) {
			t.Errorf("of one width: %v", f)
		}
	}
	for i, want := range []bool{false, false, false, true, false} {
		if got := font.Mono(font.Standard()[i]); got != want {
			t.Errorf("standard font %d: of one width %v", i, got)
		}
	}
}

func TestSame(t *testing.T) {
	if !font.Same(small(), small()) || !font.Same(font.Font{}, font.Font{}) {
		t.Error("not the same")
	}
	if !font.Same(font.Font{Name: "X"}, font.Font{Name: "X", Glyphs: []font.Glyph{}, Ligs: []font.Lig{}, Kerns: []font.Kern{}}) {
		t.Error("an empty list and a nil list differ")
	}
	for i, change := range []func(f *font.Font){
		func(f *font.Font) { f.Name = "Y" },
		func(f *font.Font) { f.Special = false },
		func(f *font.Font) { f.Space++ },
		func(f *font.Font) { f.Glyphs[0].Name = "A" },
		func(f *font.Font) { f.Glyphs[3].Width++ },
		func(f *font.Font) { f.Glyphs = f.Glyphs[:3] },
		func(f *font.Font) { f.Glyphs = append(f.Glyphs, font.Glyph{Name: "d"}) },
		func(f *font.Font) { f.Ligs[0].A = "c" },
		func(f *font.Font) { f.Ligs[1].B = "c" },
		func(f *font.Font) { f.Ligs[2].Is = "c" },
		func(f *font.Font) { f.Ligs = f.Ligs[:2] },
		func(f *font.Font) { f.Ligs = nil },
		func(f *font.Font) { f.Kerns[0].A = "b" },
		func(f *font.Font) { f.Kerns[1].B = "a" },
		func(f *font.Font) { f.Kerns[2].By++ },
		func(f *font.Font) { f.Kerns = f.Kerns[:2] },
		func(f *font.Font) { f.Kerns = nil },
	} {
		f := changed(change)
		if font.Same(f, small()) || font.Same(small(), f) {
			t.Errorf("change %d: the same", i)
		}
		if !font.Same(f, changed(change)) {
			t.Errorf("change %d: not the same as itself", i)
		}
	}
}
