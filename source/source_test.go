package source_test

import (
	"fmt"
	"slices"
	"strings"
	"testing"

	"frisket/api"
	"frisket/source"
)

// P5.2

func TestTheExample(t *testing.T) {
	s := source.New()
	must(t, s.File("f", "first\nsecond"))
	checkNext(t, "the file", s, "first")
	must(t, s.Macro("m", plain("macro"), nil))
	checkNext(t, "the macro, then the file", s, "macro", "second")
	checkEnd(t, "the end", s)
}

func TestPushesAreReadFirst(t *testing.T) {
	for _, frames := range texts("", "F", "M", "W", "FMW", "WWW", "fF", "mM") {
		for _, p := range pushes() {
			what := p.what + " on " + frames
			s := build(t, frames, false)
			must(t, p.do(s))
			if s.Depth() != len(frames)+1 {
				t.Errorf("%s: the depth %d", what, s.Depth())
			}
			checkNext(t, what, s, p.has...)
			// What a read frame is on top of comes as if nothing had been there, once the next line is asked for.
			below := build(t, frames, false)
			for range 3 {
				if got, want := show(s.Next()), show(below.Next()); got != want {
					t.Errorf("%s: behind it %s, want %s", what, got, want)
				}
				checkTold(t, what, s, told(below))
			}
		}
	}
}

func TestFramesAtTheirEndStayTillALineIsAskedFor(t *testing.T) {
	for _, k := range []struct{ frames, told string }{
		{"Ff", `2 frames, "f1" at 1, [], ahead: "F0a"`},
		{"Fm", `2 frames, "m1" at 0, ["m1x" "m1y"], ahead: "F0a"`},
		{"Fw", `2 frames, "F0" at 0, [], ahead: "F0a"`},
		{"Ffmfmw", `6 frames, "m4" at 1, ["m4x" "m4y"], ahead: "F0a"`},
		{"Mf", `2 frames, "f1" at 1, ["M0x" "M0y"], ahead: "M0a"`},
		{"f", `1 frames, "f0" at 1, [], ahead: error 3`},
		{"m", `1 frames, "m0" at 0, ["m0x" "m0y"], ahead: error 3`},
		{"w", `1 frames, "" at 0, [], ahead: error 3`},
		{"fmw", `3 frames, "m1" at 1, ["m1x" "m1y"], ahead: error 3`},
	} {
		s := build(t, k.frames, false)
		checkTold(t, k.frames, s, k.told)
		checkTold(t, k.frames+" once more", s, k.told)
	}
}

func TestNextTakesFramesAtTheirEndAway(t *testing.T) {
	for _, empty := range []bool{false, true} {
		for _, above := range texts("", "f", "m", "w", "fm", "mw", "ffmmw", "fmfmfm") {
			s := build(t, "MF"+above, empty)
			checkNext(t, above, s, "F1a")
			checkTold(t, above, s, `2 frames, "F1" at 1, ["M0x" "M0y"], ahead: "F1b"`)
			s = build(t, "FfW"+above, empty)
			checkNext(t, above, s, "W2a", "W2b")
			if s.Depth() != 3 {
				t.Error(above, "what is at its end below went, too", s.Depth())
			}
			checkNext(t, above, s, "F0a")
			checkTold(t, above, s, `1 frames, "F0" at 1, [], ahead: "F0b"`)
			checkEnd(t, above, build(t, above, empty))
		}
	}
}

func TestNextAtTheEnd(t *testing.T) {
	s := source.New()
	for range 3 {
		checkEnd(t, "a new stack", s)
	}
	must(t, s.Macro("m", nil, texts("x")), s.File("f", ""), s.Wait(nil))
	checkEnd(t, "a stack without lines", s)
	checkError(t, "Return", s.Return(false), api.ErrState)
	checkError(t, "Instead", s.Instead("f", "x"), api.ErrState)
	must(t, s.File("g", "x"))
	checkNext(t, "a file behind the end", s, "x")
	checkTold(t, "a file behind the end", s, `1 frames, "g" at 1, [], ahead: error 3`)
	checkEnd(t, "its end", s)
}

func TestPushesTakeAwayWhatWaitedAndIsAtItsEnd(t *testing.T) {
	for _, empty := range []bool{false, true} {
		for _, k := range []struct{ frames, stay string }{
			{"w", ""}, {"Fw", "F"}, {"Mw", "M"}, {"fw", "f"}, {"mw", "m"}, {"Ww", "W"}, {"WWw", "WW"}, {"fmw", "fm"}, {"Wmw", "Wm"},
			{"f", "f"}, {"m", "m"}, {"F", "F"}, {"M", "M"}, {"W", "W"}, {"fm", "fm"}, {"Wm", "Wm"}, {"Wf", "Wf"},
		} {
			for _, p := range pushes() {
				s, want := build(t, k.frames, empty), build(t, k.stay, empty)
				must(t, p.do(s), p.do(want))
				if s.Depth() != len(k.stay)+1 {
					t.Errorf("%s on %s: the depth %d", p.what, k.frames, s.Depth())
				}
				checkState(t, p.what+" on "+k.frames, s, state(want))
			}
		}
	}
}

func TestManyThatWaitAndAreAtTheirEnd(t *testing.T) {
	s := build(t, "Fm", false)
	for i := range 60 {
		must(t, s.Wait(nil))
		if s.Depth() != 3 {
			t.Fatal("empty ones", i, s.Depth())
		}
	}
	s = source.New()
	for i := range 40 {
		must(t, s.Wait(plain(fmt.Sprint(i))))
	}
	for i := 39; i >= 0; i-- {
		checkNext(t, "many that wait", s, fmt.Sprint(i))
		if s.Depth() != i+1 {
			t.Fatal("many that wait", i, s.Depth())
		}
		copied := s.Copy()
		must(t, copied.File("f", ""))
		if copied.Depth() != i+1 {
			t.Fatal("a push on the one that is at its end", i, copied.Depth())
		}
	}
	checkEnd(t, "many that waited", s)
}

func TestAWaitWithALineLeftStays(t *testing.T) {
	s := source.New()
	must(t, s.Wait(plain("a", "b")))
	checkNext(t, "the first", s, "a")
	must(t, s.Wait(plain("c")))
	if s.Depth() != 2 {
		t.Error("depth", s.Depth())
	}
	checkNext(t, "the rest", s, "c", "b")
	checkEnd(t, "the end", s)
}

func TestFiftyFrames(t *testing.T) {
	for _, kinds := range texts("F", "M", "W", "f", "m", "FMWfm", "mmmmW", "fM") {
		for _, p := range pushes() {
			s := build(t, strings.Repeat(kinds, 50)[:49], true)
			must(t, p.do(s))
			if s.Depth() != 50 {
				t.Errorf("%s as the 50th on %s: the depth %d", p.what, kinds, s.Depth())
			}
			if p.what == "Wait of nothing" {
				continue // the next one takes it away
			}
			before := state(s)
			for _, q := range pushes() {
				checkError(t, q.what+" as the 51st on "+kinds, q.do(s), api.ErrLimit)
				checkState(t, q.what+" as the 51st", s, before)
			}
		}
	}
}

func TestRoomInAFullStack(t *testing.T) {
	for _, empty := range []bool{false, true} {
		for _, p := range pushes() {
			s, want := build(t, strings.Repeat("m", 49)+"w", empty), build(t, strings.Repeat("m", 49), empty)
			must(t, p.do(s), p.do(want))
			checkState(t, p.what+" in the place of what waited", s, state(want))
		}
	}
	s := build(t, "F"+strings.Repeat("m", 49), false)
	checkNext(t, "a line from below", s, "F0a")
	for _, p := range pushes() {
		must(t, p.do(s))
	}
	s = full(t)
	must(t, s.Return(false), s.File("p", "x"))
	s = full(t)
	must(t, s.Instead("p", "x"))
	if s.Depth() != 49 {
		t.Error("Instead in a full stack", s.Depth())
	}
}

func TestPeekTakesNothing(t *testing.T) {
	for _, empty := range []bool{false, true} {
		for _, frames := range texts("F", "M", "W", "Ff", "Mfmw", "Wffmmw", "FWm") {
			s := build(t, frames, empty)
			before := state(s)
			first := strings.LastIndexAny(frames, "FMW")
			want := fmt.Sprintf("%q", frames[first:first+1]+fmt.Sprint(first)+"a")
			for range 3 {
				if got := show(s.Peek()); got != want {
					t.Errorf("Peek of %s: %s, want %s", frames, got, want)
				}
			}
			checkState(t, "Peek of "+frames, s, before)
			if got := show(s.Next()); got != want {
				t.Errorf("Next of %s: %s, want %s", frames, got, want)
			}
		}
		for _, frames := range texts("", "f", "m", "w", "fmfmw") {
			s := build(t, frames, empty)
			for range 3 {
				if got := show(s.Peek()); got != atEnd {
					t.Errorf("Peek of %s: %s", frames, got)
				}
			}
			checkState(t, "Peek of "+frames, s, state(build(t, frames, empty)))
			if s.Depth() != len(frames) {
				t.Errorf("Peek of %s: the depth %d", frames, s.Depth())
			}
		}
	}
}

func TestReturn(t *testing.T) {
	for _, empty := range []bool{false, true} {
		for _, k := range []struct{ frames, one, all string }{
			{"M", "", ""}, {"m", "", ""}, {"FM", "F", "F"}, {"Fm", "F", "F"}, {"WM", "W", "W"}, {"fM", "f", "f"},
			{"MF", "", ""}, {"MW", "", ""}, {"mw", "", ""}, {"mf", "", ""}, {"FMFW", "F", "F"}, {"FmFw", "F", "F"}, {"FMWFFW", "F", "F"},
			{"MM", "M", ""}, {"mM", "m", ""}, {"Mm", "M", ""}, {"FMFM", "FMF", "F"}, {"FMFMF", "FMF", "F"}, {"FMWMW", "FMW", "F"},
			{"FFWMFMWmfw", "FFWMFMW", "FFW"}, {"fWmWfMF", "fWmWf", "fW"}, {"MMMM", "MMM", ""},
		} {
			s := build(t, k.frames, empty)
			checkError(t, k.frames, s.Return(false), api.OK)
			checkState(t, "Return in "+k.frames, s, state(build(t, k.one, empty)))
			s = build(t, k.frames, empty)
			checkError(t, k.frames, s.Return(true), api.OK)
			checkState(t, "Return of all in "+k.frames, s, state(build(t, k.all, empty)))
			checkError(t, k.frames, s.Return(true), api.ErrState)
		}
		for _, frames := range texts("", "F", "f", "W", "w", "FWf", "WFw") {
			s := build(t, frames, empty)
			checkError(t, frames, s.Return(false), api.ErrState)
			checkError(t, frames, s.Return(true), api.ErrState)
			checkState(t, "Return in "+frames, s, state(build(t, frames, empty)))
		}
	}
}

func TestReturnOneByOne(t *testing.T) {
	s := build(t, "FMFMmFMW", false)
	for _, depth := range []int{6, 4, 3, 1} {
		checkError(t, "Return", s.Return(false), api.OK)
		if s.Depth() != depth {
			t.Errorf("the depth %d, want %d", s.Depth(), depth)
		}
	}
	checkError(t, "Return", s.Return(false), api.ErrState)
	checkNext(t, "the file", s, "F0a", "F0b")
}

func TestInstead(t *testing.T) {
	for _, empty := range []bool{false, true} {
		for _, k := range []struct{ frames, stay string }{
			{"F", ""}, {"f", ""}, {"FM", ""}, {"FW", ""}, {"FMWMw", ""}, {"fm", ""}, {"FF", "F"}, {"Ff", "F"}, {"fF", "f"}, {"FMF", "FM"},
			{"MF", "M"}, {"mF", "m"}, {"WF", "W"}, {"MWFMW", "MW"}, {"FMFMFM", "FMFM"}, {"FMWfmw", "FMW"},
		} {
			for _, text := range texts("one\ntwo", "") {
				s, want := build(t, k.frames, empty), build(t, k.stay, empty)
				checkError(t, k.frames, s.Instead("another", text), api.OK)
				must(t, want.File("another", text))
				checkState(t, "Instead in "+k.frames, s, state(want))
				if s.Name() != "another" || s.Line() != 0 || s.Depth() != len(k.stay)+1 {
					t.Errorf("Instead in %s: %s", k.frames, told(s))
				}
			}
		}
		for _, frames := range texts("", "M", "m", "W", "w", "MW", "WmMw") {
			s := build(t, frames, empty)
			checkError(t, frames, s.Instead("another", "x"), api.ErrState)
			checkState(t, "Instead in "+frames, s, state(build(t, frames, empty)))
		}
	}
}

func TestArgs(t *testing.T) {
	for _, k := range []struct {
		frames string
		want   []string
	}{
		{"", nil}, {"F", nil}, {"W", nil}, {"fw", nil}, {"M", texts("M0x", "M0y")}, {"m", texts("m0x", "m0y")},
		{"MF", texts("M0x", "M0y")}, {"MWFw", texts("M0x", "M0y")}, {"mfw", texts("m0x", "m0y")}, {"MM", texts("M1x", "M1y")}, {"FMmF", texts("m2x", "m2y")},
	} {
		if got := build(t, k.frames, false).Args(); !slices.Equal(got, k.want) {
			t.Errorf("Args in %s: %q", k.frames, got)
		}
	}
	long := strings.Repeat("x", 100000)
	for _, args := range [][]string{nil, {}, texts(""), texts("", "", ""), texts("a", "a"), texts("\n", "\xff\x00", "é \t\"", long), make([]string, 30000)} {
		s := build(t, "M", true)
		must(t, s.Macro("m", plain("x"), args))
		if got := s.Args(); !slices.Equal(got, args) {
			t.Errorf("Args: %d of them, want %d", len(got), len(args))
		}
		must(t, s.Return(false))
		if got := s.Args(); !slices.Equal(got, texts("M0x", "M0y")) {
			t.Errorf("Args below: %q", got)
		}
	}
}

func TestShift(t *testing.T) {
	var args []string
	for i := range 150 {
		args = append(args, fmt.Sprint(i))
	}
	for _, have := range []int{0, 1, 2, 99, 100, 101, 150} {
		for _, n := range []int{0, 1, 2, 50, 99, 100} {
			s := source.New()
			must(t, s.Macro("m", plain("a", "b"), args[:have]), s.Shift(n))
			left := args[min(n, have):have]
			if got := s.Args(); !slices.Equal(got, left) {
				t.Errorf("Shift of %d in %d: %q", n, have, got)
			}
			must(t, s.Shift(n))
			if got := s.Args(); !slices.Equal(got, left[min(n, len(left)):]) {
				t.Errorf("Shift of %d in %d once more: %q", n, have, got)
			}
			if s.Name() != "m" || s.Depth() != 1 {
				t.Error("Shift took more", told(s))
			}
			checkNext(t, "Shift", s, "a", "b")
		}
	}
}

func TestShiftIsOfTheTopmostMacroAlone(t *testing.T) {
	for _, frames := range texts("FMM", "FMm", "FMMFW", "FMmfw") {
		s := build(t, frames, true)
		name := frames[2:3] + "2"
		must(t, s.Shift(1))
		if got := s.Args(); !slices.Equal(got, texts(name+"y")) {
			t.Errorf("Shift in %s: %q", frames, got)
		}
		must(t, s.Shift(100), s.Shift(1))
		if got := s.Args(); len(got) != 0 {
			t.Errorf("Shift of all in %s: %q", frames, got)
		}
		must(t, s.Return(false))
		if got := s.Args(); !slices.Equal(got, texts("M1x", "M1y")) {
			t.Errorf("Shift in %s changed the macro below: %q", frames, got)
		}
	}
}

func TestNameAndLine(t *testing.T) {
	for _, k := range []struct {
		frames, name string
		line         int
	}{
		{"", "", 0}, {"W", "", 0}, {"w", "", 0}, {"F", "F0", 0}, {"f", "f0", 1}, {"M", "M0", 0}, {"m", "m0", 0}, {"FM", "M1", 0}, {"fM", "M1", 1}, {"fm", "m1", 1},
		{"MF", "F1", 0}, {"Mf", "f1", 1}, {"mf", "f1", 1}, {"FMW", "M1", 0}, {"fMW", "M1", 1}, {"MW", "M0", 0}, {"mw", "m0", 0}, {"WW", "", 0},
		{"fF", "F1", 0}, {"Ff", "f1", 1}, {"fFM", "M2", 0}, {"FfmW", "m2", 1},
	} {
		s := build(t, k.frames, false)
		if s.Name() != k.name || s.Line() != k.line {
			t.Errorf("%s: %q at %d, want %q at %d", k.frames, s.Name(), s.Line(), k.name, k.line)
		}
	}
}

func TestLineCountsTheTopmostFileAlone(t *testing.T) {
	s := source.New()
	check := func(what string, line int, name string) {
		t.Helper()
		if s.Line() != line || s.Name() != name {
			t.Errorf("%s: %q at %d, want %q at %d", what, s.Name(), s.Line(), name, line)
		}
	}
	must(t, s.File("f", "a\nb\n\nd"))
	check("ahead of the first line", 0, "f")
	checkNext(t, "f", s, "a")
	check("behind the first line", 1, "f")
	must(t, s.Macro("m", plain("x", "y"), nil), s.Wait(plain("z")))
	checkNext(t, "above", s, "z", "x")
	check("in a macro", 1, "m")
	checkNext(t, "above and f", s, "y", "b")
	check("behind the macro", 2, "f")
	must(t, s.File("g", "p\nq"))
	check("in another file", 0, "g")
	checkNext(t, "g", s, "p", "q")
	check("at that file's end", 2, "g")
	checkNext(t, "f", s, "")
	check("behind that file", 3, "f")
	must(t, s.Instead("h", "u\nv"))
	check("in a file instead", 0, "h")
	checkNext(t, "h", s, "u", "v")
	check("at its end", 2, "h")
	checkEnd(t, "h", s)
}

// lineAccount is a plain one of the lines of a text.
func lineAccount(text string) []string {
	var lines []string
	line := ""
	for i := range len(text) {
		if text[i] == '\n' {
			lines, line = append(lines, line), ""
			continue
		}
		line += text[i : i+1]
	}
	if line != "" {
		lines = append(lines, line)
	}
	return lines
}

func TestLines(t *testing.T) {
	for _, k := range []struct {
		text string
		want []string
	}{
		{"", nil}, {"\n", texts("")}, {"\n\n", texts("", "")}, {"a", texts("a")}, {"a\n", texts("a")}, {"a\nb", texts("a", "b")}, {"a\nb\n", texts("a", "b")},
		{"a\n\nb", texts("a", "", "b")}, {"a\n\n", texts("a", "")}, {"\na", texts("", "a")}, {"\n\na\n", texts("", "", "a")}, {" \n\t", texts(" ", "\t")},
		{"a\r\nb\r", texts("a\r", "b\r")}, {"\x00\xff\né", texts("\x00\xff", "é")}, {`a\nb`, texts(`a\nb`)}, {"a\v\fb\u2028c", texts("a\v\fb\u2028c")},
	} {
		if got := source.Lines(k.text); !slices.Equal(got, k.want) {
			t.Errorf("Lines of %q: %q, want %q", k.text, got, k.want)
		}
	}
	if got := source.Lines(strings.Repeat("x\n", 100000) + strings.Repeat("y", 100000)); len(got) != 100001 || len(got[100000]) != 100000 {
		t.Error("Lines of a long text", len(got))
	}
}

func TestLinesOfAllShortTexts(t *testing.T) {
	all := texts("")
	for range 7 {
		for _, text := range all {
			if got, want := source.Lines(text), lineAccount(text); !slices.Equal(got, want) {
				t.Errorf("Lines of %q: %q, want %q", text, got, want)
			}
			s := source.New()
			must(t, s.File("f", text))
			checkNext(t, "a file", s, lineAccount(text)...)
			checkEnd(t, "a file", s)
		}
		var longer []string
		for _, text := range all {
			longer = append(longer, text+"a", text+"\r", text+"\n")
		}
		all = longer
	}
}
