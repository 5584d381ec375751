package font

import "testing"

// TestNotBelowZero asks from inside: none of the standard fonts is narrow enough to show it.
func TestNotBelowZero(t *testing.T) {
	for i, g := range romanGlyphs(-300) {
		want := romanWidth(byte(33+i)) - 300
		if want < 0 {
			want = 0
		}
		if g.Width != want {
			t.Errorf("%s: %d, want %d", g.Name, g.Width, want)
		}
	}
}
