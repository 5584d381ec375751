package source_test

import (
	"fmt"
	"strconv"
	"strings"
	"testing"

	"frisket/api"
	"frisket/source"
)

func texts(l ...string) []string { return l }

// plain are lines of texts.
func plain(l ...string) []api.Line {
	var lines []api.Line
	for _, text := range l {
		lines = append(lines, api.Line{Text: text})
	}
	return lines
}

// made is a line of which each part is something.
func made() api.Line {
	return api.Line{Made: true, Up: 5, Down: -7, Boxes: []api.Box{
		{Kind: api.Stroke, Width: 3, Font: 1, Size: 10, Name: "l", Colour: "red", N: []int{1, 2}},
		{Kind: api.Glyph, Width: 50, Size: 10, Name: "a"},
	}}
}

// show tells a line, or the error in its place; of one with an error the line must be nothing.
func show(line api.Line, err api.Errno) string {
	text := fmt.Sprintf("%+v", line)
	if err == api.OK && text == fmt.Sprintf("%+v", api.Line{Text: line.Text}) {
		return strconv.Quote(line.Text)
	}
	if err != api.OK && text == fmt.Sprintf("%+v", api.Line{}) {
		return "error " + strconv.Itoa(int(err))
	}
	return text + " error " + strconv.Itoa(int(err))
}

// atEnd is what show tells where there is no line any more.
const atEnd = "error 3"

// told is what a stack tells as it is.
func told(s *source.Stack) string {
	return fmt.Sprintf("%d frames, %q at %d, %q, ahead: %s", s.Depth(), s.Name(), s.Line(), s.Args(), show(s.Peek()))
}

// state is what a stack tells as it is, and while a copy of it is read to its end.
func state(s *source.Stack) string {
	var b strings.Builder
	copied := s.Copy()
	for {
		line := show(copied.Next())
		b.WriteString(told(s) + "; " + line + "\n")
		if line == atEnd {
			return b.String()
		}
		s = copied
	}
}

// short shows a text that may be long.
func short(s string) string {
	if len(s) > 300 {
		return s[:150] + " .. " + s[len(s)-150:]
	}
	return s
}

func checkState(t *testing.T, what string, s *source.Stack, want string) {
	t.Helper()
	if got := state(s); got != want {
		t.Errorf("%s: the stack is\n%s\nwant\n%s", what, short(got), short(want))
	}
}

func checkTold(t *testing.T, what string, s *source.Stack, want string) {
	t.Helper()
	if got := told(s); got != want {
		t.Errorf("%s: %s, want %s", what, short(got), short(want))
	}
}

func checkError(t *testing.T, what string, got, want api.Errno) {
	t.Helper()
	if got != want {
		t.Errorf("%s: error %d, want %d", what, got, want)
	}
}

// checkNext takes lines, each of which must be a text.
func checkNext(t *testing.T, what string, s *source.Stack, want ...string) {
	t.Helper()
	for _, text := range want {
		if got := show(s.Next()); got != strconv.Quote(text) {
			t.Errorf("%s: the next line is %s, want %q", what, short(got), short(text))
		}
	}
}

// checkEnd asks for a line where there is none.
func checkEnd(t *testing.T, what string, s *source.Stack) {
	t.Helper()
	if got := show(s.Next()); got != atEnd {
		t.Errorf("%s: the next line is %s, want none", what, short(got))
	}
	checkTold(t, what, s, told(source.New()))
}

// rest reads a stack to its end.
func rest(s *source.Stack) []string {
	var lines []string
	for {
		line, err := s.Next()
		if err != api.OK {
			return lines
		}
		lines = append(lines, line.Text)
	}
}

// must is for the calls by which a test lays its stack out.
func must(t *testing.T, errs ...api.Errno) {
	t.Helper()
	for _, err := range errs {
		if err != api.OK {
			t.Fatal("unexpected error", err)
		}
	}
}

// build makes a stack of frames from the lowest to the topmost: F a file, M a macro, W what waits, each of two lines that were not taken;
// small letters: at its end (of no lines, or of one that was taken). Each frame's texts begin with its letter and place.
func build(t *testing.T, frames string, empty bool) *source.Stack {
	t.Helper()
	s := source.New()
	for i, kind := range frames {
		name := string(kind) + strconv.Itoa(i)
		lines := texts(name+"a", name+"b")
		isRead := strings.ContainsRune("fmw", kind)
		if isRead {
			lines = lines[:1]
		}
		if isRead && empty {
			lines = nil
		}
		switch kind {
		case 'F', 'f':
			must(t, s.File(name, strings.Join(lines, "\n")))
		case 'M', 'm':
			must(t, s.Macro(name, plain(lines...), texts(name+"x", name+"y")))
		case 'W', 'w':
			must(t, s.Wait(plain(lines...)))
		}
		if isRead && !empty {
			checkNext(t, frames, s, lines...)
		}
	}
	if s.Depth() != len(frames) {
		t.Fatal(frames, "has the depth", s.Depth())
	}
	return s
}

// full is a stack of 50 frames, of all kinds.
func full(t *testing.T) *source.Stack {
	t.Helper()
	return build(t, strings.Repeat("FMWfm", 10), true)
}

// push is a call that puts a frame on top.
type push struct {
	what string
	do   func(s *source.Stack) api.Errno
	has  []string // the lines of what it puts there
}

func pushes() []push {
	return []push{
		{"File", func(s *source.Stack) api.Errno { return s.File("p", "one\ntwo") }, texts("one", "two")},
		{"Macro", func(s *source.Stack) api.Errno { return s.Macro("p", plain("one", "two"), texts("x")) }, texts("one", "two")},
		{"Wait", func(s *source.Stack) api.Errno { return s.Wait(plain("one", "two")) }, texts("one", "two")},
		{"File of nothing", func(s *source.Stack) api.Errno { return s.File("p", "") }, nil},
		{"Macro of nothing", func(s *source.Stack) api.Errno { return s.Macro("p", nil, nil) }, nil},
		{"Wait of nothing", func(s *source.Stack) api.Errno { return s.Wait(nil) }, nil},
	}
}

// call is a call that may return an error.
type call struct {
	what string
	do   func(s *source.Stack) api.Errno
}

// refused are calls of which an argument is not as described.
func refused() []call {
	long := strings.Repeat("x", 2001)
	badLine := plain("a", "b\n")
	many := make([]api.Line, 20001)
	return []call{
		{"File without a name", func(s *source.Stack) api.Errno { return s.File("", "x") }},
		{"File of a long name", func(s *source.Stack) api.Errno { return s.File(long[:101], "x") }},
		{"File of a long line", func(s *source.Stack) api.Errno { return s.File("p", long) }},
		{"File of many lines", func(s *source.Stack) api.Errno { return s.File("p", strings.Repeat("\n", 20001)) }},
		{"Macro without a name", func(s *source.Stack) api.Errno { return s.Macro("", plain("x"), nil) }},
		{"Macro of a long name", func(s *source.Stack) api.Errno { return s.Macro(long[:101], plain("x"), nil) }},
		{"Macro of a bad line", func(s *source.Stack) api.Errno { return s.Macro("p", badLine, nil) }},
		{"Macro of many lines", func(s *source.Stack) api.Errno { return s.Macro("p", many, nil) }},
		{"Wait of a bad line", func(s *source.Stack) api.Errno { return s.Wait(badLine) }},
		{"Wait of many lines", func(s *source.Stack) api.Errno { return s.Wait(many) }},
		{"Instead without a name", func(s *source.Stack) api.Errno { return s.Instead("", "x") }},
		{"Instead of a long name", func(s *source.Stack) api.Errno { return s.Instead(long[:101], "x") }},
		{"Instead of a long line", func(s *source.Stack) api.Errno { return s.Instead("p", long) }},
		{"Instead of many lines", func(s *source.Stack) api.Errno { return s.Instead("p", strings.Repeat("\n", 20001)) }},
		{"Shift below 0", func(s *source.Stack) api.Errno { return s.Shift(-1) }},
		{"Shift above 100", func(s *source.Stack) api.Errno { return s.Shift(101) }},
	}
}
