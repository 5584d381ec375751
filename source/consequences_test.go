package source_test

import (
	"fmt"
	"slices"
	"strings"
	"testing"

	"frisket/api"
	"frisket/source"
)

// P5.3

func TestAFilesLinesComeInOrderOnce(t *testing.T) {
	var p picker = 5
	var want, got []string
	for i := range 2000 {
		want = append(want, fmt.Sprint("f", i))
	}
	s := source.New()
	must(t, s.File("f", strings.Join(want, "\n")))
	for range 100000 {
		if p.below(3) > 0 {
			if err := pushes()[p.below(6)].do(s); err != api.OK && (err != api.ErrLimit || s.Depth() != 50) {
				t.Fatal("a push", err, s.Depth())
			}
			continue
		}
		for range p.below(12) {
			line, err := s.Next()
			if err == api.ErrNone {
				break
			}
			if line.Text != "one" && line.Text != "two" {
				got = append(got, line.Text)
			}
		}
	}
	for _, line := range rest(s) {
		if line != "one" && line != "two" {
			got = append(got, line)
		}
	}
	if !slices.Equal(got, want) {
		t.Errorf("%d lines came, from %q on", len(got), got[:min(3, len(got))])
	}
}

func TestADepthOf50IsNeverExceeded(t *testing.T) {
	for _, p := range pushes() {
		s := source.New()
		for i := range 200 {
			err := p.do(s)
			if s.Depth() > 50 || err != api.OK && (err != api.ErrLimit || i < 50) {
				t.Fatal(p.what, i, err, s.Depth())
			}
		}
	}
}

// picker chooses the same numbers in each run.
type picker uint64

func (p *picker) below(n int) int {
	*p = *p*6364136223846793005 + 1442695040888963407
	return int(uint64(*p)>>33) % n
}

// frameAccount is a plain one of a frame.
type frameAccount struct {
	kind       byte
	name       string
	left, args []string
	taken      int
}

// account is a plain one of a stack, the topmost frame last.
type account []frameAccount

// last finds the topmost frame of some kinds, -1: none.
func (a account) last(kinds string) int {
	at := -1
	for i, f := range a {
		if strings.IndexByte(kinds, f.kind) >= 0 {
			at = i
		}
	}
	return at
}

func (a account) told() string {
	name, line, ahead := "", 0, atEnd
	var args []string
	if at := a.last("FM"); at >= 0 {
		name = a[at].name
	}
	if at := a.last("F"); at >= 0 {
		line = a[at].taken
	}
	if at := a.last("M"); at >= 0 {
		args = a[at].args
	}
	for _, f := range a {
		if len(f.left) > 0 {
			ahead = fmt.Sprintf("%q", f.left[0])
		}
	}
	return fmt.Sprintf("%d frames, %q at %d, %q, ahead: %s", len(a), name, line, args, ahead)
}

func (a account) next() (account, string) {
	for len(a) > 0 && len(a[len(a)-1].left) == 0 {
		a = a[:len(a)-1]
	}
	if len(a) == 0 {
		return a, atEnd
	}
	f := &a[len(a)-1]
	line := f.left[0]
	f.left, f.taken = f.left[1:], f.taken+1
	return a, fmt.Sprintf("%q", line)
}

func (a account) put(f frameAccount) (account, api.Errno) {
	for len(a) > 0 && a[len(a)-1].kind == 'W' && len(a[len(a)-1].left) == 0 {
		a = a[:len(a)-1]
	}
	if len(a) == 50 {
		return a, api.ErrLimit
	}
	return append(a, f), api.OK
}

func (a account) giveBack(all bool) (account, api.Errno) {
	at := a.last("M")
	if at < 0 {
		return a, api.ErrState
	}
	for all && a[:at].last("M") >= 0 {
		at = a[:at].last("M")
	}
	return a[:at], api.OK
}

func (a account) instead(f frameAccount) (account, api.Errno) {
	at := a.last("F")
	if at < 0 {
		return a, api.ErrState
	}
	return append(a[:at], f), api.OK
}

func (a account) shift(n int) (account, api.Errno) {
	at := a.last("M")
	if at < 0 {
		return a, api.ErrState
	}
	a[at].args = a[at].args[min(n, len(a[at].args)):]
	return a, api.OK
}

// step does one thing with a stack and with its account, and returns what each says of it.
func step(p *picker, s *source.Stack, a account, i int) (account, string, string) {
	var lines, args []string
	for j := range p.below(3) {
		lines = append(lines, fmt.Sprint(i, "-", j))
	}
	for j := range p.below(4) {
		args = append(args, fmt.Sprint("arg", i, "-", j))
	}
	name, text := fmt.Sprint("n", i), strings.Join(lines, "\n")
	var got, want api.Errno
	switch p.below(9) {
	case 0:
		got = s.File(name, text)
		a, want = a.put(frameAccount{kind: 'F', name: name, left: lines})
	case 1:
		got = s.Macro(name, plain(lines...), args)
		a, want = a.put(frameAccount{kind: 'M', name: name, left: lines, args: args})
	case 2, 3:
		got = s.Wait(plain(lines...))
		a, want = a.put(frameAccount{kind: 'W', left: lines})
	case 4:
		all := p.below(4) == 0
		if p.below(4) > 0 {
			return a, "", ""
		}
		got = s.Return(all)
		a, want = a.giveBack(all)
	case 5:
		if p.below(4) > 0 {
			return a, "", ""
		}
		got = s.Instead(name, text)
		a, want = a.instead(frameAccount{kind: 'F', name: name, left: lines})
	case 6:
		n := p.below(3)
		got = s.Shift(n)
		a, want = a.shift(n)
	default:
		line := show(s.Next())
		a, text = a.next()
		return a, line, text
	}
	return a, fmt.Sprint(got), fmt.Sprint(want)
}

func TestLongHistories(t *testing.T) {
	for seed := range 8 {
		p := picker(seed)
		s, a := source.New(), account(nil)
		var got, want string
		for i := range 20000 {
			if a, got, want = step(&p, s, a, i); got != want {
				t.Fatalf("call %d: %s, want %s", i, got, want)
			}
			if told(s) != a.told() {
				t.Fatalf("call %d: %s, want %s", i, told(s), a.told())
			}
			if s.Depth() > 50 {
				t.Fatal("the depth", s.Depth())
			}
			if p.below(7) == 0 {
				s = s.Copy()
			}
			if p.below(40) == 0 { // so that there is something to be read for long
				fill := fmt.Sprint("fill", i)
				err := s.File(fill, strings.Repeat("x\n", 40))
				a, _ = a.put(frameAccount{kind: 'F', name: fill, left: slices.Repeat(texts("x"), 40)})
				if err != api.OK && err != api.ErrLimit {
					t.Fatal("a file", err)
				}
			}
		}
	}
}

// Copies are apart.

func changes() []call {
	return []call{
		{"File", func(s *source.Stack) api.Errno { return s.File("new", "x\ny") }},
		{"Macro", func(s *source.Stack) api.Errno { return s.Macro("new", plain("x"), texts("z")) }},
		{"Wait", func(s *source.Stack) api.Errno { return s.Wait(plain("x", "y")) }},
		{"Next", func(s *source.Stack) api.Errno { _, err := s.Next(); return err }},
		{"Return", func(s *source.Stack) api.Errno { return s.Return(false) }},
		{"Return of all", func(s *source.Stack) api.Errno { return s.Return(true) }},
		{"Instead", func(s *source.Stack) api.Errno { return s.Instead("new", "x\ny") }},
		{"Shift", func(s *source.Stack) api.Errno { return s.Shift(1) }},
		{"the rest", func(s *source.Stack) api.Errno { rest(s); return api.OK }},
	}
}

func TestCopiesAreApart(t *testing.T) {
	for _, frames := range texts("FMFM", "FMFMW", "FMw", "Mfm") {
		for _, c := range changes() {
			s := build(t, frames, false)
			before := state(s)
			copied := s.Copy()
			checkState(t, c.what+", a copy of "+frames, copied, before)
			must(t, c.do(copied))
			if told(copied) == told(s) {
				t.Errorf("%s in %s did nothing", c.what, frames)
			}
			checkState(t, c.what+" in a copy of "+frames, s, before)

			changed := state(copied)
			must(t, s.Copy().Wait(plain("other")), c.do(s))
			checkState(t, c.what+" in "+frames, copied, changed)
			checkState(t, c.what+" in both of "+frames, s, changed)
		}
	}
}

func TestCopiesGrowApart(t *testing.T) {
	for _, frames := range texts("", "F", "FM", "FMF", "FMFM", "FMFMF", "FMFMFM") {
		s := build(t, frames+"W", false)
		checkNext(t, frames, s, "W"+fmt.Sprint(len(frames))+"a", "W"+fmt.Sprint(len(frames))+"b")
		copied := s.Copy()
		must(t, s.File("of s", "s"), copied.File("of the copy", "c"), s.Wait(plain("more of s")))
		checkNext(t, "the copy", copied, "c")
		checkNext(t, "s", s, "more of s", "s")
		if s.Name() != "of s" || copied.Name() != "of the copy" {
			t.Error("names", s.Name(), copied.Name())
		}
	}
}

func TestCopiesOfEmptyAndOfFullStacks(t *testing.T) {
	copied := source.New().Copy().Copy()
	must(t, copied.File("f", "x"))
	checkNext(t, "a copy of a new stack", copied, "x")
	copied = full(t).Copy()
	checkState(t, "a copy of a full stack", copied, state(full(t)))
	checkError(t, "a copy of a full stack", copied.File("f", "x"), api.ErrLimit)
	s := source.New()
	checkEnd(t, "s", s)
	if s.Copy() == nil {
		t.Error("a copy of a stack at its end")
	}
}

// What is handed in or out is not shared with the stack (R5).

// spoil changes all that a line has.
func spoil(line *api.Line) {
	for i := range line.Boxes {
		for j := range line.Boxes[i].N {
			line.Boxes[i].N[j] = 99
		}
		line.Boxes[i] = api.Box{Name: "spoilt"}
	}
	*line = api.Line{Text: "spoilt"}
}

func TestWhatIsHandedInIsNotShared(t *testing.T) {
	lines, args := []api.Line{made(), {Text: "x"}, made()}, texts("a", "b")
	s := source.New()
	must(t, s.Macro("m", lines, args), s.Wait(lines))
	before := state(s)
	if show(lines[0], api.OK) != show(made(), api.OK) || lines[1].Text != "x" || !slices.Equal(args, texts("a", "b")) {
		t.Error("an argument was changed", lines, args)
	}
	lines[0].Boxes[0].N[0], lines[0].Boxes[1].Name, args[0] = 77, "changed", "changed"
	spoil(&lines[1])
	spoil(&lines[2])
	checkState(t, "changed arguments", s, before)
	must(t, s.Shift(1))
	if args[0] != "changed" || args[1] != "b" || !slices.Equal(s.Args(), texts("b")) {
		t.Error("Shift", args, s.Args())
	}
}

func TestSpareMemoryOfArgumentsIsNotTouched(t *testing.T) {
	lines, args := plain("a", "b", "c", "d"), texts("a", "b", "c")
	s := source.New()
	must(t, s.Macro("m", lines[:2], args[:1]), s.Wait(lines[:1]), s.File("f", "x"), s.Wait(plain("y")))
	rest(s)
	if lines[2].Text != "c" || lines[3].Text != "d" || args[1] != "b" || args[2] != "c" {
		t.Error("what is behind an argument was changed", lines, args)
	}
}

func TestWhatIsHandedOutIsNotShared(t *testing.T) {
	s := source.New()
	must(t, s.Macro("m", []api.Line{made(), made(), {Text: "x"}}, texts("a", "b", "c")))
	copied := s.Copy()
	before := state(s)
	for range 2 {
		line, _ := s.Peek()
		spoil(&line)
		line, _ = s.Peek()
		line.Boxes = append(line.Boxes[:1], api.Box{Name: "longer"})
		args := s.Args()
		args[0] = "spoilt"
		_ = append(args[:1], "longer")
		checkState(t, "changed results", s, before)
	}
	line, _ := s.Next()
	line.Boxes[0].N[0], line.Boxes[1].Name = 99, "changed"
	spoil(&line)
	checkState(t, "a changed line, the copy", copied, before)
	must(t, copied.Shift(1))
	copied.Args()[0] = "spoilt"
	if !slices.Equal(copied.Args(), texts("b", "c")) || !slices.Equal(s.Args(), texts("a", "b", "c")) {
		t.Error("changed arguments", copied.Args(), s.Args())
	}
}

func TestLinesOfOneArgumentShareNothing(t *testing.T) {
	one := made()
	n := []int{7}
	twice := api.Line{Made: true, Boxes: []api.Box{{N: n}, {N: n}}}
	s := source.New()
	must(t, s.Wait([]api.Line{one, one, twice}))
	first, _ := s.Next()
	spoil(&first)
	if got := show(s.Next()); got != show(made(), api.OK) {
		t.Error("lines of one argument share boxes", got)
	}
	line, _ := s.Next()
	line.Boxes[0].N[0] = 99
	if line.Boxes[1].N[0] != 7 || n[0] != 7 {
		t.Error("boxes of one result share numbers", line)
	}
}

func TestResultsOfLinesAreNew(t *testing.T) {
	const text = "a\nb\nc\n"
	source.Lines(text)[0] = "spoilt"
	got := source.Lines(text)
	_ = append(got[:1], "spoilt")
	if again := source.Lines(text); !slices.Equal(again, texts("a", "b", "c")) {
		t.Error("Lines", again)
	}
	s := source.New()
	must(t, s.File("f", text))
	checkNext(t, "f", s, "a", "b", "c")
}
