package font_test

import (
	"fmt"
	"slices"
	"strings"
	"testing"

	"frisket/api"
	"frisket/font"
)

// small is a valid font with something in each field.
func small() font.Font {
	return font.Font{
		Name:    "X",
		Special: true,
		Space:   250,
		Glyphs:  []font.Glyph{{Name: "a", Width: 500}, {Name: "ab", Width: 333}, {Name: "b", Width: 7}, {Name: "c", Width: 0}},
		Ligs:    []font.Lig{{A: "a", B: "a", Is: "c"}, {A: "a", B: "b", Is: "ab"}, {A: "b", B: "a", Is: "b"}},
		Kerns:   []font.Kern{{A: "a", B: "b", By: -80}, {A: "a", B: "c", By: 15}, {A: "c", B: "a", By: -1}},
	}
}

// changed is the small font with a change.
func changed(change func(f *font.Font)) font.Font {
	f := small()
	change(&f)
	return f
}

// many lists n glyphs, ascending.
func many(n int) []font.Glyph {
	var glyphs []font.Glyph
	for i := range n {
		glyphs = append(glyphs, font.Glyph{Name: fmt.Sprintf("g%03d", i), Width: i})
	}
	return glyphs
}

// pairs calls for n different pairs of the names of many, ascending.
func pairs(n int, take func(a, b string)) {
	for i := range n {
		take(fmt.Sprintf("g%03d", i/30), fmt.Sprintf("g%03d", i%30))
	}
}

// full has as many glyphs, ligatures and kerns as it is told.
func full(glyphs, ligs, kerns int) font.Font {
	f := font.Font{Name: "Full", Glyphs: many(glyphs)}
	pairs(ligs, func(a, b string) { f.Ligs = append(f.Ligs, font.Lig{A: a, B: b, Is: "g000"}) })
	pairs(kerns, func(a, b string) { f.Kerns = append(f.Kerns, font.Kern{A: a, B: b, By: 1}) })
	return f
}

// bare has one glyph of a name.
func bare(glyph string) font.Font {
	return font.Font{Name: "X", Glyphs: []font.Glyph{{Name: glyph}}}
}

// same compares fonts without the package's own help.
func same(f, g font.Font) bool {
	return f.Name == g.Name && f.Special == g.Special && f.Space == g.Space &&
		slices.Equal(f.Glyphs, g.Glyphs) && slices.Equal(f.Ligs, g.Ligs) && slices.Equal(f.Kerns, g.Kerns)
}

func clone(f font.Font) font.Font {
	f.Glyphs, f.Ligs, f.Kerns = slices.Clone(f.Glyphs), slices.Clone(f.Ligs), slices.Clone(f.Kerns)
	return f
}

// short shows a value that may be long.
func short(v any) string {
	s := fmt.Sprintf("%q", fmt.Sprint(v))
	if len(s) > 200 {
		return s[:160] + ".. of " + fmt.Sprint(len(s)) + " bytes"
	}
	return s
}

func checkNumber(t *testing.T, what string, got int, err api.Errno, want int, wantErr api.Errno) {
	t.Helper()
	if got != want || err != wantErr {
		t.Errorf("%s: %d, error %d, want %d, error %d", what, got, err, want, wantErr)
	}
}

func checkWidth(t *testing.T, f font.Font, glyph string, size, want int, wantErr api.Errno) {
	t.Helper()
	got, err := font.Width(f, glyph, size)
	checkNumber(t, fmt.Sprintf("Width of %q of %s at %d", glyph, f.Name, size), got, err, want, wantErr)
}

func checkSpace(t *testing.T, f font.Font, size, want int, wantErr api.Errno) {
	t.Helper()
	got, err := font.Space(f, size)
	checkNumber(t, fmt.Sprintf("Space of %s at %d", f.Name, size), got, err, want, wantErr)
}

func checkKerning(t *testing.T, f font.Font, a, b string, size, want int, wantErr api.Errno) {
	t.Helper()
	got, err := font.Kerning(f, a, b, size)
	checkNumber(t, fmt.Sprintf("Kerning of %q, %q of %s at %d", a, b, f.Name, size), got, err, want, wantErr)
}

func checkScale(t *testing.T, n, size, want int, wantErr api.Errno) {
	t.Helper()
	got, err := font.Scale(n, size)
	checkNumber(t, fmt.Sprintf("Scale of %d at %d", n, size), got, err, want, wantErr)
}

func checkJoin(t *testing.T, f font.Font, a, b, want string, wantIs bool) {
	t.Helper()
	if got, is := font.Join(f, a, b); got != want || is != wantIs {
		t.Errorf("Join of %q, %q of %s: %q, %v, want %q, %v", a, b, f.Name, got, is, want, wantIs)
	}
}

func checkWrite(t *testing.T, f font.Font, want string) {
	t.Helper()
	if got, err := font.Write(f); got != want || err != api.OK {
		t.Errorf("Write of %s: %s, error %d, want %s", short(f), short(got), err, short(want))
	}
}

func checkParse(t *testing.T, s string, want font.Font) {
	t.Helper()
	if got, err := font.Parse(s); !same(got, want) || err != api.OK {
		t.Errorf("Parse of %s: %s, error %d, want %s", short(s), short(got), err, short(want))
	}
}

func checkMalformed(t *testing.T, s string) {
	t.Helper()
	if got, err := font.Parse(s); !same(got, font.Font{}) || err != api.ErrForm {
		t.Errorf("Parse of %s: %s, error %d, want error %d", short(s), short(got), err, api.ErrForm)
	}
}

// checkNotValid asks each function that looks at whether a font is valid.
func checkNotValid(t *testing.T, f font.Font) {
	t.Helper()
	if font.Valid(f) {
		t.Errorf("valid: %s", short(f))
	}
	checkWidth(t, f, "a", 10, 0, api.ErrArg)
	checkWidth(t, f, "nowhere", 0, 0, api.ErrArg)
	checkSpace(t, f, 10, 0, api.ErrArg)
	checkKerning(t, f, "a", "b", 10, 0, api.ErrArg)
	checkJoin(t, f, "a", "b", "", false)
	if s, err := font.Write(f); s != "" || err != api.ErrArg {
		t.Errorf("Write of %s: %s, error %d", short(f), short(s), err)
	}
	checkMalformed(t, described(f))
}

func checkValid(t *testing.T, f font.Font) {
	t.Helper()
	if !font.Valid(f) {
		t.Errorf("not valid: %s", short(f))
	}
	checkSpace(t, f, 100, f.Space, api.OK)
	checkWrite(t, f, described(f))
	checkParse(t, described(f), f)
}

// described writes a font, valid or not, as the chapter says it.
func described(f font.Font) string {
	var b strings.Builder
	fmt.Fprintf(&b, "font %s", f.Name)
	if f.Special {
		b.WriteString(" special")
	}
	fmt.Fprintf(&b, "\nspace %d\n", f.Space)
	for _, g := range f.Glyphs {
		fmt.Fprintf(&b, "g %s %d\n", g.Name, g.Width)
	}
	for _, l := range f.Ligs {
		fmt.Fprintf(&b, "l %s %s %s\n", l.A, l.B, l.Is)
	}
	for _, k := range f.Kerns {
		fmt.Fprintf(&b, "k %s %s %d\n", k.A, k.B, k.By)
	}
	return b.String()
}

// picker chooses the same numbers in each run.
type picker uint64

func (p *picker) below(n int) int {
	*p = *p*6364136223846793005 + 1442695040888963407
	return int(uint64(*p)>>33) % n
}

// from chooses one of the pieces.
func (p *picker) from(pieces ...string) string {
	return pieces[p.below(len(pieces))]
}
