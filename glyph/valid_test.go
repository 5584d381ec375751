package glyph_test

import (
	"fmt"
	"strings"
	"testing"

	"frisket/api"
	"frisket/glyph"
)

func checkValid(t *testing.T, b api.Box, want bool) {
	t.Helper()
	if got := glyph.Valid(b); got != want {
		t.Errorf("Valid of %+v: %v", b, got)
	}
}

// bare lists a valid box of each kind with as little as it may have.
func bare() []api.Box {
	return []api.Box{
		{Kind: api.Glyph, Name: "a"},
		{Kind: api.Blank},
		{Kind: api.Right},
		{Kind: api.Under},
		{Kind: api.Stroke, Name: "l"},
		{Kind: api.Point},
		{Kind: api.Fixed},
	}
}

func TestValidKinds(t *testing.T) {
	for _, b := range append(shapes(), bare()...) {
		checkValid(t, b, true)
	}
	for _, kind := range []int{-1, 7, 8, 100, most, least} {
		for _, name := range []string{"", "a", "l", "~"} {
			checkValid(t, api.Box{Kind: kind, Name: name}, false)
		}
	}
	checkValid(t, api.Box{}, false)
}

func TestValidWidths(t *testing.T) {
	for _, b := range bare() {
		for _, n := range []int{1, -1, 1000000, -1000000} {
			b.Width = n
			checkValid(t, b, b.Kind != api.Point)
		}
		for _, n := range []int{1000001, -1000001, most, least} {
			b.Width = n
			checkValid(t, b, false)
		}
	}
}

// TestValidFields gives each kind each field.
func TestValidFields(t *testing.T) {
	for _, b := range bare() {
		kind := b.Kind
		set := kind == api.Glyph || kind == api.Blank
		coloured := kind == api.Glyph || kind == api.Stroke
		with := func(want bool, change func(b *api.Box)) {
			t.Helper()
			changed := b
			change(&changed)
			checkValid(t, changed, want)
		}
		for _, n := range []int{1, 99, 100, 1001, most} {
			with(set, func(b *api.Box) { b.Font = n })
			with(set, func(b *api.Box) { b.Size = n })
		}
		for _, n := range []int{-1, least} {
			with(false, func(b *api.Box) { b.Font = n })
			with(false, func(b *api.Box) { b.Size = n })
		}
		for _, colour := range []string{"r", "red", strings.Repeat("x", 20)} {
			with(coloured, func(b *api.Box) { b.Colour = colour })
		}
		for _, colour := range []string{" ", "light red", "\x7f", "red\n", strings.Repeat("x", 21)} {
			with(false, func(b *api.Box) { b.Colour = colour })
		}
		with(kind == api.Stroke, func(b *api.Box) { b.N = []int{0} })
		with(true, func(b *api.Box) { b.N = []int{} })
		with(kind == api.Glyph || kind == api.Stroke || kind == api.Blank, func(b *api.Box) { b.Name = "~" })
		with(kind == api.Glyph || kind == api.Stroke, func(b *api.Box) { b.Name = "c" })
		with(kind == api.Glyph, func(b *api.Box) { b.Name = "x" })
		with(kind == api.Glyph, func(b *api.Box) { b.Name = "~~" })
	}
}

func TestValidNames(t *testing.T) {
	for _, name := range badNames() {
		checkValid(t, api.Box{Name: name}, false)
	}
	for _, name := range []string{"!", "~", "1234567890", "\\"} {
		checkValid(t, api.Box{Name: name}, true)
	}
}

func TestValidStrokes(t *testing.T) {
	for c := range 256 {
		name := string([]byte{byte(c)})
		checkValid(t, api.Box{Kind: api.Stroke, Name: name}, strings.Contains("lcea~", name))
	}
	for _, name := range []string{"", "lc", "ll", "~~", "l "} {
		checkValid(t, api.Box{Kind: api.Stroke, Name: name}, false)
	}
	for _, letter := range []string{"l", "c", "e", "a", "~"} {
		for _, n := range []int{0, 1, 2, 39, 40, 41, 100} {
			checkValid(t, api.Box{Kind: api.Stroke, Name: letter, N: make([]int, n)}, n <= 40)
		}
		for _, at := range []int{0, 3, 39} {
			for _, n := range []int{1000000, -1000000, 1000001, -1000001, most, least} {
				numbers := make([]int, 40)
				numbers[at] = n
				checkValid(t, api.Box{Kind: api.Stroke, Name: letter, N: numbers}, n == 1000000 || n == -1000000)
			}
		}
	}
}

// TestMadeBoxesAreValid: what Boxes, Shift and Split return of valid fonts is valid.
func TestMadeBoxesAreValid(t *testing.T) {
	for _, size := range []int{1, 10, 1000} {
		s := glyph.Style{Size: size, Ligs: true, Kerns: true}
		l, _, err := glyph.Boxes(few(), s, chars("a b c a c a d c b p q r"), nil)
		if err != api.OK || len(l) == 0 {
			t.Fatal(l, err)
		}
		shifted, err := glyph.Shift(append(l, shapes()...), 1001-size, few())
		if err != api.OK {
			t.Fatal(err)
		}
		for i, b := range append(l, shifted...) {
			if !glyph.Valid(b) {
				t.Error(fmt.Sprint("box ", i, " at size ", size, " is not valid: "), b)
			}
		}
	}
}
