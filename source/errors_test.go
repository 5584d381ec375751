package source_test

import (
	"fmt"
	"math"
	"strings"
	"testing"

	"frisket/api"
	"frisket/source"
	"frisket/store"
)

// P5.1

func TestStacksThatAreNone(t *testing.T) {
	for _, s := range []*source.Stack{nil, {}, new(source.Stack)} {
		for _, p := range pushes() {
			checkError(t, p.what, p.do(s), api.ErrArg)
		}
		for _, c := range refused() {
			checkError(t, c.what, c.do(s), api.ErrArg)
		}
		checkError(t, "Return", s.Return(false), api.ErrArg)
		checkError(t, "Return of all", s.Return(true), api.ErrArg)
		checkError(t, "Instead", s.Instead("f", "x"), api.ErrArg)
		checkError(t, "Shift", s.Shift(1), api.ErrArg)
		if got := show(s.Next()) + show(s.Peek()); got != "error 1error 1" {
			t.Error("Next and Peek", got)
		}
		if s.Depth() != 0 || s.Name() != "" || s.Line() != 0 || len(s.Args()) != 0 || s.Copy() != nil {
			t.Error("of none", s.Depth(), s.Name(), s.Line(), s.Args(), s.Copy())
		}
	}
}

func TestNewStacks(t *testing.T) {
	s := source.New()
	if s == nil || s.Copy() == nil {
		t.Fatal("New or Copy is nil")
	}
	checkTold(t, "New", s, `0 frames, "" at 0, [], ahead: error 3`)
	must(t, s.File("f", "x"), s.Copy().File("g", "y"))
	if source.New().Depth() != 0 {
		t.Error("two new stacks are one")
	}
}

// named are the calls with a name.
func named(name string) []call {
	return []call{
		{"File", func(s *source.Stack) api.Errno { return s.File(name, "x") }},
		{"Macro", func(s *source.Stack) api.Errno { return s.Macro(name, plain("x"), nil) }},
		{"Instead", func(s *source.Stack) api.Errno { return s.Instead(name, "x") }},
	}
}

func TestNames(t *testing.T) {
	hundred := strings.Repeat("é", 50)
	for _, name := range texts("a", " ", "]", "\n", "\x00", "\xff", "a b\tc", "a/b.tr", hundred, strings.Repeat("\n", 100)) {
		for _, c := range named(name) {
			s := build(t, "F", true)
			checkError(t, c.what, c.do(s), api.OK)
			if s.Name() != name {
				t.Errorf("%s: the name %q, want %q", c.what, s.Name(), name)
			}
		}
	}
	for _, name := range texts("", hundred+"x", hundred[1:]+"xx", strings.Repeat("é", 51), strings.Repeat("x", 100000)) {
		for _, c := range named(name) {
			s := build(t, "FMFW", true)
			checkError(t, c.what, c.do(s), api.ErrArg)
			checkState(t, c.what, s, state(build(t, "FMFW", true)))
		}
	}
}

// lined are the calls with lines.
func lined(lines []api.Line) []call {
	return []call{
		{"Macro", func(s *source.Stack) api.Errno { return s.Macro("p", lines, texts("x")) }},
		{"Wait", func(s *source.Stack) api.Errno { return s.Wait(lines) }},
	}
}

func TestLinesAsInLayer3(t *testing.T) {
	const most = 1000000
	long := strings.Repeat("é", 1000)
	odd := []api.Box{{Kind: 99, Width: math.MinInt, Font: -1, Size: -1, Name: "a b", Colour: "\n", N: []int{math.MaxInt}}}
	for _, k := range []struct {
		line api.Line
		want api.Errno
	}{
		{api.Line{}, api.OK},
		{api.Line{Text: "\x00\t\r\v\x80\xff\\"}, api.OK},
		{api.Line{Text: long}, api.OK},
		{api.Line{Text: "x", Boxes: []api.Box{}}, api.OK},
		{api.Line{Made: true}, api.OK},
		{made(), api.OK},
		{api.Line{Made: true, Up: most, Down: most}, api.OK},
		{api.Line{Made: true, Up: -most, Down: -most}, api.OK},
		{api.Line{Made: true, Boxes: make([]api.Box, 2000)}, api.OK},
		{api.Line{Made: true, Boxes: odd}, api.OK},
		{api.Line{Text: long + "x"}, api.ErrArg},
		{api.Line{Text: "\n"}, api.ErrArg},
		{api.Line{Text: "x\n"}, api.ErrArg},
		{api.Line{Text: "\nx"}, api.ErrArg},
		{api.Line{Text: "x\ny"}, api.ErrArg},
		{api.Line{Made: true, Text: "x"}, api.ErrArg},
		{api.Line{Made: true, Up: most + 1}, api.ErrArg},
		{api.Line{Made: true, Up: -most - 1}, api.ErrArg},
		{api.Line{Made: true, Down: most + 1}, api.ErrArg},
		{api.Line{Made: true, Down: -most - 1}, api.ErrArg},
		{api.Line{Made: true, Up: math.MinInt, Down: math.MaxInt}, api.ErrArg},
		{api.Line{Made: true, Boxes: make([]api.Box, 2001)}, api.ErrArg},
	} {
		for at := range 3 {
			lines := plain("a", "b", "c")
			lines[at] = k.line
			for _, c := range lined(lines) {
				what := fmt.Sprintf("%s of %.40s at %d", c.what, show(k.line, api.OK), at)
				s := build(t, "Fw", false)
				checkError(t, what, c.do(s), k.want)
				if k.want != api.OK {
					checkState(t, what, s, state(build(t, "Fw", false)))
					continue
				}
				for _, line := range lines {
					if got := show(s.Next()); got != show(line, api.OK) {
						t.Errorf("%s: the line %s", what, short(got))
					}
				}
				checkNext(t, what, s, "F0a", "F0b")
			}
		}
	}
}

func TestLinesThatAreHalfMadeAreAsInLayer3(t *testing.T) {
	for _, line := range []api.Line{
		{Text: "x", Up: 1}, {Text: "x", Down: -1}, {Up: 1000001}, {Boxes: make([]api.Box, 1)}, {Text: "x", Boxes: make([]api.Box, 2001)},
	} {
		want := store.New().Macro("m", []api.Line{line})
		for _, c := range lined([]api.Line{line}) {
			checkError(t, c.what+" of "+short(show(line, api.OK)), c.do(source.New()), want)
		}
	}
}

func TestNumbersOfLines(t *testing.T) {
	many := make([]api.Line, 20001)
	for i := range many {
		many[i].Text = fmt.Sprint(i)
	}
	for _, n := range []int{0, 1, 1999, 2000, 2001, 4001, 19999, 20000} {
		for _, c := range lined(many[:n]) {
			s := source.New()
			checkError(t, fmt.Sprint(c.what, " of ", n), c.do(s), api.OK)
			for i := range n {
				checkNext(t, c.what, s, fmt.Sprint(i))
			}
			checkEnd(t, c.what, s)
		}
	}
	for _, lines := range [][]api.Line{many, append(many, many...)} {
		for _, c := range lined(lines) {
			s := build(t, "Mw", true)
			checkError(t, fmt.Sprint(c.what, " of ", len(lines)), c.do(s), api.ErrArg)
			checkState(t, c.what, s, state(build(t, "Mw", true)))
		}
	}
}

// filed are the calls with a text.
func filed(text string) []call {
	return []call{
		{"File", func(s *source.Stack) api.Errno { return s.File("p", text) }},
		{"Instead", func(s *source.Stack) api.Errno { return s.Instead("p", text) }},
	}
}

func TestTextsOfFiles(t *testing.T) {
	long := strings.Repeat("é", 1000)
	for _, text := range texts(
		"", "\n", "x", "x\n", "x\ny", "\n\nx\n\n", "\x00\r\n\xff\t", long, long+"\n", "x\n"+long+"\ny", strings.Repeat(long+"\n", 40),
		strings.Repeat("\n", 20000), strings.Repeat("x\n", 20000), strings.Repeat("x\n", 19999)+"x", strings.Repeat("\n", 19999)+"x",
	) {
		for _, c := range filed(text) {
			s := build(t, "f", true)
			checkError(t, c.what, c.do(s), api.OK)
			checkNext(t, c.what, s, source.Lines(text)...)
			if s.Line() != len(source.Lines(text)) {
				t.Errorf("%s: Line %d", c.what, s.Line())
			}
			checkEnd(t, c.what, s)
		}
	}
	for _, text := range texts(
		long+"x", "x"+long, long+"x\n", "x\n"+long+"x", long+"x\nx", "x\n\nx"+long+"\n", strings.Repeat("x", 100000),
		strings.Repeat("\n", 20000)+"x", strings.Repeat("\n", 20001), strings.Repeat("x\n", 20000)+"x", strings.Repeat("x\n", 20001), strings.Repeat("\n", 200000),
	) {
		for _, c := range filed(text) {
			for _, frames := range texts("Fw", "FMW") {
				s := build(t, frames, false)
				checkError(t, c.what, c.do(s), api.ErrArg)
				checkState(t, c.what, s, state(build(t, frames, false)))
			}
		}
	}
}

func TestOrderOfErrors(t *testing.T) {
	noFile := build(t, strings.Repeat("MWm", 16)+"MM", true)
	noMacro := build(t, strings.Repeat("FWf", 16)+"FF", true)
	for _, s := range []*source.Stack{full(t), noFile, noMacro, source.New(), build(t, "Fw", true)} {
		before := state(s)
		for _, c := range refused() {
			checkError(t, c.what+" with other errors", c.do(s), api.ErrArg)
		}
		checkState(t, "refused calls", s, before)
	}
	before := state(noFile)
	checkError(t, "Instead of no file in a full stack", noFile.Instead("f", "x"), api.ErrState)
	checkState(t, "Instead", noFile, before)
	before = state(noMacro)
	for _, all := range []bool{false, true} {
		checkError(t, "Return of no macro", noMacro.Return(all), api.ErrState)
	}
	for _, n := range []int{0, 1, 100} {
		checkError(t, "Shift of no macro", noMacro.Shift(n), api.ErrState)
	}
	checkState(t, "Return and Shift", noMacro, before)
}

func TestShiftsOutOfBounds(t *testing.T) {
	for _, n := range []int{-1, -2, -100, math.MinInt, 101, 102, 1000, math.MaxInt} {
		for _, frames := range texts("", "F", "FM", "mFW") {
			s := build(t, frames, false)
			checkError(t, fmt.Sprint("Shift of ", n), s.Shift(n), api.ErrArg)
			checkState(t, "Shift", s, state(build(t, frames, false)))
		}
	}
}
