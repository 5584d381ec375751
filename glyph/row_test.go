package glyph_test

import (
	"testing"

	"frisket/api"
	"frisket/glyph"
)

const (
	most  = 1<<63 - 1
	least = -1 << 63
)

// shapes lists a box of each kind with all that it may have.
func shapes() []api.Box {
	return []api.Box{
		{Kind: api.Glyph, Width: 50, Font: mainFont, Size: 10, Name: "a", Colour: "red"},
		{Kind: api.Blank, Width: 25, Font: plainFont, Size: 10},
		{Kind: api.Blank, Width: 25, Font: firstSpecial, Size: 10, Name: "~"},
		{Kind: api.Right, Width: -8},
		{Kind: api.Under, Width: 300},
		{Kind: api.Stroke, Width: 70, Name: "l", Colour: "blue", N: []int{70, -4}},
		{Kind: api.Point},
		{Kind: api.Fixed, Width: 11},
	}
}

func TestWidth(t *testing.T) {
	for kind, factor := range []int{1, 1, 1, 0, 1, 0, 1, 0} {
		for _, n := range []int{0, 1, -1, 25, -1000000, most, least} {
			if got := glyph.Width([]api.Box{{Kind: kind, Width: n}}); got != factor*n {
				t.Errorf("Width of kind %d of %d: %d", kind, n, got)
			}
		}
	}
	if got := glyph.Width([]api.Box{{Kind: -1, Width: 5}}); got != 0 {
		t.Error("Width of kind -1:", got)
	}
	if got := glyph.Width(nil); got != 0 {
		t.Error("Width of none:", got)
	}
	if got := glyph.Width(shapes()); got != 50+25+25-8+70+11 {
		t.Error("Width of all kinds:", got)
	}
	if got := glyph.Width([]api.Box{{Kind: api.Right, Width: -50}, {Kind: api.Glyph, Width: 20}, {Kind: api.Fixed, Width: -3}}); got != -33 {
		t.Error("Width below 0:", got)
	}
}

// TestWidthBeyond64Bits: the way to a sum goes beyond what the sum needs.
func TestWidthBeyond64Bits(t *testing.T) {
	for _, c := range []struct {
		widths []int
		want   int
	}{
		{[]int{most, most, -most, -most}, 0},
		{[]int{most, 1, -1}, most},
		{[]int{least, -1, 1}, least},
		{[]int{most, most, least, least, 9}, 7},
		{[]int{least, least, most, most, 2}, 0},
	} {
		var l []api.Box
		for i, n := range c.widths {
			l = append(l, api.Box{Kind: []int{api.Glyph, api.Blank, api.Right, api.Stroke, api.Fixed}[i], Width: n})
		}
		if got := glyph.Width(l); got != c.want {
			t.Errorf("Width of %d: %d, want %d", c.widths, got, c.want)
		}
	}
}

func TestSplit(t *testing.T) {
	a, b := api.Box{Name: "a", Width: 1}, api.Box{Name: "b", Width: 2}
	space, tied := api.Box{Kind: api.Blank, Width: 3}, api.Box{Kind: api.Blank, Width: 3, Name: "~"}
	type row = []api.Box
	for _, c := range []struct {
		l    row
		want []row
	}{
		{nil, []row{{}}},
		{row{}, []row{{}}},
		{row{a}, []row{{a}}},
		{row{space}, []row{{}, {}}},
		{row{space, space, space}, []row{{}, {}, {}, {}}},
		{row{a, space, b}, []row{{a}, {b}}},
		{row{space, a, b, space}, []row{{}, {a, b}, {}}},
		{row{a, space, space, b}, []row{{a}, {}, {b}}},
		{row{a, tied, b}, []row{{a, tied, b}}},
		{row{tied}, []row{{tied}}},
		{row{tied, space, tied}, []row{{tied}, {tied}}},
		{row{{Kind: api.Blank, Name: "x"}, {Kind: api.Blank, Name: "~~"}}, []row{{}, {}, {}}},
		{row{{Kind: api.Glyph, Name: "~"}, {Kind: api.Fixed}, {Kind: 7}}, []row{{{Name: "~"}, {Kind: api.Fixed}, {Kind: 7}}}},
		{shapes(), []row{shapes()[:1], shapes()[2:]}},
	} {
		if got := glyph.Split(c.l); !sameWords(got, c.want) {
			t.Errorf("Split of %+v: %+v, want %+v", c.l, got, c.want)
		}
	}
}

func TestShift(t *testing.T) {
	checkShift(t, nil, 10, few(), nil)
	checkShift(t, nil, 10, nil, nil)
	checkShift(t, shapes()[3:], 10, nil, shapes()[3:])
	want := shapes()
	want[0].Width, want[0].Size = 100, 20
	want[1].Width, want[1].Size = 60, 20
	want[2].Width, want[2].Size = 20, 20
	checkShift(t, shapes(), 20, few(), want)
	want[0].Width, want[0].Size = 5, 1
	want[1].Width, want[1].Size = 3, 1
	want[2].Width, want[2].Size = 1, 1
	checkShift(t, shapes(), 1, few(), want)
	want[0].Width, want[0].Size = 5000, 1000
	want[1].Width, want[1].Size = 3000, 1000
	want[2].Width, want[2].Size = 1000, 1000
	checkShift(t, shapes(), 1000, few(), want)
}

// TestShiftByItsFont: a glyph's own font tells its width, special or not; what its width was does not count.
func TestShiftByItsFont(t *testing.T) {
	checkShift(t, []api.Box{
		{Name: "a", Font: plainFont, Size: 10, Width: 12345},
		{Name: "b", Font: firstSpecial, Size: 10, Width: -5, Colour: "red", N: []int{1}},
		{Name: "q", Font: secondSpecial},
		{Kind: api.Blank, Font: secondSpecial, Width: 99, Name: "x"},
		{Kind: 7, Width: 5, Font: -1, Size: -1},
		{Kind: -1, Width: 5, Font: 9},
	}, 20, few(), []api.Box{
		{Name: "a", Font: plainFont, Size: 20, Width: 140},
		{Name: "b", Font: firstSpecial, Size: 20, Width: 199, Colour: "red", N: []int{1}},
		{Name: "q", Font: secondSpecial, Size: 20, Width: 2},
		{Kind: api.Blank, Font: secondSpecial, Size: 20, Width: 140, Name: "x"},
		{Kind: 7, Width: 5, Font: -1, Size: -1},
		{Kind: -1, Width: 5, Font: 9},
	})
}

// TestShiftKeepsKerns: a kern is a motion, and stays as it is.
func TestShiftKeepsKerns(t *testing.T) {
	l, _, _ := glyph.Boxes(few(), glyph.Style{Size: 10, Kerns: true}, []string{"a", "c"}, nil)
	got, err := glyph.Shift(l, 20, few())
	if want := "0:a/0/20=100 2:/0/0=-8 0:c/0/20=66"; row(got) != want || err != api.OK {
		t.Errorf("Shift: %s, error %d, want %s", row(got), err, want)
	}
}

func TestText(t *testing.T) {
	for _, c := range []struct {
		l    []api.Box
		want string
	}{
		{nil, ""},
		{[]api.Box{{Name: "a"}, {Name: "bu"}, {Name: "\\"}, {Name: "1234567890"}}, `a\[bu]\\[1234567890]`},
		{[]api.Box{{Name: "~"}, {Name: "]"}, {Name: "[]"}, {Name: ""}}, `~]\[[]]\[]`},
		{[]api.Box{{Kind: api.Blank}, {Kind: api.Blank, Name: "~"}, {Kind: api.Fixed}}, "   "},
		{[]api.Box{{Kind: api.Right, Width: 9}, {Kind: api.Under, Width: 9}, {Kind: api.Point}}, ""},
		{[]api.Box{{Kind: api.Stroke, Name: "l", N: []int{1, 2}}, {Kind: api.Stroke, Name: "~"}}, ""},
		{[]api.Box{{Kind: 7, Name: "a"}, {Kind: -1, Name: "a"}, {Kind: api.Point, Name: "a"}}, ""},
		{shapes(), "a   "},
	} {
		if got := glyph.Text(c.l); got != c.want {
			t.Errorf("Text of %+v: %q, want %q", c.l, got, c.want)
		}
	}
}
