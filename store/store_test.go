package store

import (
	"fmt"
	"math"
	"slices"
	"strconv"
	"strings"
	"testing"

	"frisket/api"
)

// outcome is what a call returned, so that whole answers can be compared. An empty list and none look the same in it.
type outcome struct {
	n     int
	text  string
	lines string
	err   api.Errno
}

func gave(err api.Errno) outcome { return outcome{lines: "[]", err: err} }
func count(n int) outcome        { return outcome{n: n, lines: "[]"} }
func says(s string) outcome      { return outcome{text: s, lines: "[]"} }
func has(l ...api.Line) outcome  { return outcome{lines: show(l)} }
func show(l []api.Line) string   { return fmt.Sprintf("%+v", l) }
func texts(l ...string) []string { return l }

func textOf(s *Store, name string) outcome {
	text, err := s.Text(name)
	return outcome{text: text, lines: "[]", err: err}
}

func linesOf(s *Store, name string) outcome {
	l, err := s.Lines(name)
	return outcome{lines: show(l), err: err}
}

func lengthOf(s *Store, name string) outcome {
	n, err := s.Length(name)
	return outcome{n: n, lines: "[]", err: err}
}

// call is one call of a store by a name, as the tests go through them.
type call struct {
	what string
	do   func(s *Store, name string) outcome
}

// calls are all that may return an error; the entry `good` is there.
func calls() []call {
	return append(makers(),
		call{"Text", textOf},
		call{"Lines", linesOf},
		call{"Length", lengthOf},
		call{"Remove", func(s *Store, name string) outcome { return gave(s.Remove(name)) }},
		call{"Rename from", func(s *Store, name string) outcome { return gave(s.Rename(name, "other")) }},
		call{"Rename to", func(s *Store, name string) outcome { return gave(s.Rename("good", name)) }},
		call{"Alias of", func(s *Store, name string) outcome { return gave(s.Alias("other", name)) }},
		call{"Chop", func(s *Store, name string) outcome { return gave(s.Chop(name)) }},
		call{"Part", func(s *Store, name string) outcome { return gave(s.Part(name, 0, 1)) }},
	)
}

// makers are the calls that make a name that is not there.
func makers() []call {
	return []call{
		{"Define", func(s *Store, name string) outcome { return gave(s.Define(name, "new")) }},
		{"Append", func(s *Store, name string) outcome { return gave(s.Append(name, "new")) }},
		{"Macro", func(s *Store, name string) outcome { return gave(s.Macro(name, plain("new"))) }},
		{"Add", func(s *Store, name string) outcome { return gave(s.Add(name, plain("new"))) }},
		{"Alias", func(s *Store, name string) outcome { return gave(s.Alias(name, "good")) }},
	}
}

// plain are lines of texts.
func plain(l ...string) []api.Line {
	var lines []api.Line
	for _, text := range l {
		lines = append(lines, api.Line{Text: text})
	}
	return lines
}

// many are n lines of texts, each another.
func many(n int) []api.Line {
	var lines []api.Line
	for i := range n {
		lines = append(lines, api.Line{Text: strconv.Itoa(i)})
	}
	return lines
}

// made is a line of which each part is something.
func made() api.Line {
	return api.Line{Made: true, Up: 5, Down: -7, Boxes: []api.Box{
		{Kind: api.Stroke, Width: 3, Font: 1, Size: 10, Name: "l", Colour: "red", N: []int{1, 2}},
		{Kind: api.Glyph, Width: 50, Size: 10, Name: "a"},
	}}
}

// state is all that a store tells of its entries.
func state(s *Store) string {
	var b strings.Builder
	for _, name := range s.Names() {
		lines, err := s.Lines(name)
		fmt.Fprintf(&b, "%s=%d%s", name, s.Kind(name), show(lines))
		if err != api.OK {
			fmt.Fprintf(&b, "!%d", err)
		}
		b.WriteString(";")
	}
	return b.String()
}

// shares lists the names of the entry that a name has.
func shares(s *Store, name string) []string {
	const mark = "a text that nothing else has"
	copied := s.Copy()
	copied.Define(name, mark)
	var names []string
	for _, other := range copied.Names() {
		if text, _ := copied.Text(other); text == mark {
			names = append(names, other)
		}
	}
	return names
}

func check(t *testing.T, what string, got, want outcome) {
	t.Helper()
	if got != want {
		t.Errorf("%s: %+v, want %+v", what, got, want)
	}
}

func checkState(t *testing.T, what string, s *Store, want string) {
	t.Helper()
	if got := state(s); got != want {
		t.Errorf("%s: the store has %.300q, want %.300q", what, got, want)
	}
}

func checkShares(t *testing.T, what string, s *Store, want ...string) {
	t.Helper()
	if got := shares(s, want[0]); !slices.Equal(got, want) {
		t.Errorf("%s: %v share an entry, want %v", what, got, want)
	}
}

// must is for the calls by which a test lays its entries out.
func must(t *testing.T, errs ...api.Errno) {
	t.Helper()
	for _, err := range errs {
		if err != api.OK {
			t.Fatal("unexpected error", err)
		}
	}
}

// sample has a string a (also named b), a macro m (also named n), an empty string and an empty macro.
func sample(t *testing.T) *Store {
	t.Helper()
	s := New()
	must(t, s.Define("a", "one"), s.Alias("b", "a"), s.Macro("m", plain("x", "y")), s.Alias("n", "m"), s.Define("e", ""), s.Macro("f", nil))
	return s
}

const sampleState = "a=1[{Text:one Made:false Up:0 Down:0 Boxes:[]}];b=1[{Text:one Made:false Up:0 Down:0 Boxes:[]}];" +
	"e=1[{Text: Made:false Up:0 Down:0 Boxes:[]}];f=2[];" +
	"m=2[{Text:x Made:false Up:0 Down:0 Boxes:[]} {Text:y Made:false Up:0 Down:0 Boxes:[]}];" +
	"n=2[{Text:x Made:false Up:0 Down:0 Boxes:[]} {Text:y Made:false Up:0 Down:0 Boxes:[]}];"

// good is a store of one entry.
func good(t *testing.T) *Store {
	t.Helper()
	s := New()
	must(t, s.Define("good", "g"))
	return s
}

// filled has n names: `good`, and r1, r2 and so on of each way to make one.
func filled(t *testing.T, n int) *Store {
	t.Helper()
	s := good(t)
	for i := 1; i < n; i++ {
		must(t, makers()[i%len(makers())].do(s, "r"+strconv.Itoa(i)).err)
	}
	if len(s.Names()) != n {
		t.Fatal("names", len(s.Names()))
	}
	return s
}

var badNames = []string{
	"", " ", "]", "a]", "]a", "a]b", "a b", " a", "a ", "a\tb", "a\nb", "\x00", "a\x7f", "\x80", "\xff", "é",
	strings.Repeat("a", 21), strings.Repeat("a", 20) + "]", strings.Repeat("a", 100000),
}

var goodNames = []string{
	"a", "!", "~", "[", "\\", "^", "7", "-", "a.b", "A", "%", strings.Repeat("a", 20), strings.Repeat("~", 20), "!\"#$%&'()*+,-./:;<=>",
}

// P3.1

func TestStoresThatAreNone(t *testing.T) {
	for _, s := range []*Store{nil, {}} {
		for _, name := range texts("a", "", "a]", strings.Repeat("a", 21)) {
			for _, c := range calls() {
				check(t, c.what+" of "+name, c.do(s, name), gave(api.ErrArg))
			}
			check(t, "Alias to itself", gave(s.Alias(name, name)), gave(api.ErrArg))
			check(t, "Rename to itself", gave(s.Rename(name, name)), gave(api.ErrArg))
			check(t, "Define", gave(s.Define(name, "x\n")), gave(api.ErrArg))
			check(t, "Macro", gave(s.Macro(name, many(2001))), gave(api.ErrArg))
			check(t, "Add", gave(s.Add(name, many(2001))), gave(api.ErrArg))
			check(t, "Kind", count(s.Kind(name)), count(0))
		}
		if len(s.Names()) != 0 || s.Copy() != nil {
			t.Error("Names or Copy", s.Names(), s.Copy())
		}
	}
}

func TestNamesThatCannotBe(t *testing.T) {
	for _, name := range badNames {
		for _, c := range calls() {
			s := good(t)
			before := state(s)
			check(t, fmt.Sprintf("%s of %.30q", c.what, name), c.do(s, name), gave(api.ErrName))
			checkState(t, c.what, s, before)
		}
		check(t, "Alias to itself", gave(good(t).Alias(name, name)), gave(api.ErrName))
		check(t, "Rename to itself", gave(good(t).Rename(name, name)), gave(api.ErrName))
		check(t, "Kind", count(good(t).Kind(name)), count(0))
	}
}

func TestNamesThatCanBe(t *testing.T) {
	for _, name := range goodNames {
		for _, c := range calls() {
			s := good(t)
			must(t, s.Define(name, "there"))
			if got := c.do(s, name); got.err != api.OK {
				t.Errorf("%s of %q: %+v", c.what, name, got)
			}
		}
		for _, c := range makers() {
			s := good(t)
			if got := c.do(s, name); got.err != api.OK || s.Kind(name) == 0 {
				t.Errorf("%s of %q: %+v", c.what, name, got)
			}
		}
	}
}

func TestEveryByteOfNames(t *testing.T) {
	for c := range 256 {
		name := "a" + string([]byte{byte(c)}) + "b"
		want := api.ErrName
		if c >= 33 && c <= 126 && c != ']' {
			want = api.OK
		}
		if got := New().Define(name, "x"); got != want {
			t.Errorf("byte %d: %v", c, got)
		}
	}
}

func TestOrderOfErrors(t *testing.T) {
	badText, badLine := strings.Repeat("x", 2001), api.Line{Made: true, Text: "x"}
	badLast := append(many(2001), badLine)
	s := filled(t, 500)
	must(t, s.Macro("r3", many(2000)), s.Define("r1", strings.Repeat("x", 2000)))
	before := state(s)
	for _, k := range []struct {
		what      string
		got, want api.Errno
	}{
		{"a text ahead of a name, Define", s.Define("a]", badText), api.ErrArg},
		{"a text ahead of a name, Append", s.Append("a]", "x\ny"), api.ErrArg},
		{"a line ahead of a name, Macro", s.Macro("a]", []api.Line{badLine}), api.ErrArg},
		{"a line ahead of a name, Add", s.Add("a]", []api.Line{badLine}), api.ErrArg},
		{"a text ahead of a limit", s.Append("r1", badText), api.ErrArg},
		{"a line ahead of a limit, Macro", s.Macro("r3", badLast), api.ErrArg},
		{"a line ahead of a limit, Add", s.Add("r3", badLast), api.ErrArg},
		{"a text ahead of a full store, Define", s.Define("new", badText), api.ErrArg},
		{"a text ahead of a full store, Append", s.Append("new", badText), api.ErrArg},
		{"a line ahead of a full store, Macro", s.Macro("new", []api.Line{badLine}), api.ErrArg},
		{"a line ahead of a full store, Add", s.Add("new", []api.Line{badLine}), api.ErrArg},
		{"a name ahead of a limit, Macro", s.Macro("a]", many(2001)), api.ErrName},
		{"a name ahead of a limit, Add", s.Add("a]", many(2001)), api.ErrName},
		{"a name ahead of a full store, Define", s.Define("a]", "x"), api.ErrName},
		{"a name ahead of a full store, Append", s.Append("a]", "x"), api.ErrName},
		{"a name ahead of a full store, Macro", s.Macro("a]", nil), api.ErrName},
		{"a name ahead of a full store, Add", s.Add("a]", nil), api.ErrName},
		{"a name ahead of a full store, Alias", s.Alias("a]", "r1"), api.ErrName},
		{"one that is not there ahead of a full store", s.Alias("new", "newer"), api.ErrName},
		{"one that is not there ahead of a loop", s.Alias("new", "new"), api.ErrName},
		{"one that is not there, one that cannot be", s.Alias("a]", "new"), api.ErrName},
		{"a loop in a full store", s.Alias("r1", "r1"), api.ErrLoop},
		{"a limit ahead of a full store, Macro", s.Macro("new", many(2001)), api.ErrLimit},
		{"a limit ahead of a full store, Add", s.Add("new", many(2001)), api.ErrLimit},
		{"a full store", s.Define("new", "x"), api.ErrFull},
		{"Rename of one not there to one that cannot be", s.Rename("new", "a]"), api.ErrName},
		{"Rename of one that cannot be to one that is there", s.Rename("a]", "r1"), api.ErrName},
	} {
		if k.got != k.want {
			t.Errorf("%s: %v, want %v", k.what, k.got, k.want)
		}
	}
	checkState(t, "nothing changed", s, before)
}

// P3.2

func TestTextsAtTheBounds(t *testing.T) {
	long := strings.Repeat("é", 1000)
	for name, c := range map[string]func(s *Store, name, text string) api.Errno{"Define": (*Store).Define, "Append": (*Store).Append} {
		for _, at := range texts("e", "f", "m", "new") {
			for _, text := range texts("", "x", " ", "\x00\t\r\v\x80\xff", long) {
				s := sample(t)
				must(t, c(s, at, text))
				check(t, name+" "+at, textOf(s, at), says(text))
			}
			for _, text := range texts("\n", "x\n", "\nx", "x\ny", long+"x", long[:1999]+"\n", "\n"+long, strings.Repeat("x", 100000)) {
				s := sample(t)
				if got := c(s, at, text); got != api.ErrArg {
					t.Errorf("%s of %.20q (%d): %v", name, text, len(text), got)
				}
				checkState(t, name, s, sampleState)
			}
		}
	}
}

func TestAppendsAtTheLimit(t *testing.T) {
	full := strings.Repeat("x", 2000)
	for _, k := range []struct {
		there, behind string
		want          api.Errno
	}{
		{full[:1999], "y", api.OK}, {full[:1], full[:1999], api.OK}, {full, "", api.OK}, {"", full, api.OK}, {full[:1000], full[:1000], api.OK},
		{full, "y", api.ErrLimit}, {full[:1999], "yy", api.ErrLimit}, {"y", full, api.ErrLimit}, {full, full, api.ErrLimit},
	} {
		s := New()
		must(t, s.Define("a", k.there))
		want := k.there
		if k.want == api.OK {
			want += k.behind
		}
		if got := s.Append("a", k.behind); got != k.want {
			t.Errorf("%d bytes behind %d: %v", len(k.behind), len(k.there), got)
		}
		check(t, "Append", textOf(s, "a"), says(want))
	}
}

func TestMakersOverWhatIsThere(t *testing.T) {
	x, y := api.Line{Text: "x"}, api.Line{Text: "y"}
	for _, k := range []struct {
		what, name string
		do         func(s *Store, name string) api.Errno
		kind       int
		want       outcome
	}{
		{"Define", "a", func(s *Store, name string) api.Errno { return s.Define(name, "y") }, 1, has(y)},
		{"Define", "m", func(s *Store, name string) api.Errno { return s.Define(name, "y") }, 1, has(y)},
		{"Define", "new", func(s *Store, name string) api.Errno { return s.Define(name, "y") }, 1, has(y)},
		{"Define empty", "m", func(s *Store, name string) api.Errno { return s.Define(name, "") }, 1, has(api.Line{})},
		{"Append", "a", func(s *Store, name string) api.Errno { return s.Append(name, "y") }, 1, has(api.Line{Text: "oney"})},
		{"Append", "m", func(s *Store, name string) api.Errno { return s.Append(name, "y") }, 1, has(y)},
		{"Append", "f", func(s *Store, name string) api.Errno { return s.Append(name, "y") }, 1, has(y)},
		{"Append", "new", func(s *Store, name string) api.Errno { return s.Append(name, "y") }, 1, has(y)},
		{"Append nothing", "a", func(s *Store, name string) api.Errno { return s.Append(name, "") }, 1, has(api.Line{Text: "one"})},
		{"Append nothing", "m", func(s *Store, name string) api.Errno { return s.Append(name, "") }, 1, has(api.Line{})},
		{"Append nothing", "new", func(s *Store, name string) api.Errno { return s.Append(name, "") }, 1, has(api.Line{})},
		{"Macro", "a", func(s *Store, name string) api.Errno { return s.Macro(name, plain("y", "x")) }, 2, has(y, x)},
		{"Macro", "m", func(s *Store, name string) api.Errno { return s.Macro(name, plain("y", "x")) }, 2, has(y, x)},
		{"Macro", "new", func(s *Store, name string) api.Errno { return s.Macro(name, plain("y", "x")) }, 2, has(y, x)},
		{"Macro of nothing", "m", func(s *Store, name string) api.Errno { return s.Macro(name, nil) }, 2, has()},
		{"Macro of nothing", "new", func(s *Store, name string) api.Errno { return s.Macro(name, []api.Line{}) }, 2, has()},
		{"Add", "a", func(s *Store, name string) api.Errno { return s.Add(name, plain("y", "y")) }, 2, has(y, y)},
		{"Add", "m", func(s *Store, name string) api.Errno { return s.Add(name, plain("y", "x")) }, 2, has(x, y, y, x)},
		{"Add", "f", func(s *Store, name string) api.Errno { return s.Add(name, plain("y")) }, 2, has(y)},
		{"Add", "new", func(s *Store, name string) api.Errno { return s.Add(name, plain("y", "x")) }, 2, has(y, x)},
		{"Add nothing", "a", func(s *Store, name string) api.Errno { return s.Add(name, nil) }, 2, has()},
		{"Add nothing", "m", func(s *Store, name string) api.Errno { return s.Add(name, nil) }, 2, has(x, y)},
		{"Add nothing", "new", func(s *Store, name string) api.Errno { return s.Add(name, nil) }, 2, has()},
	} {
		s := sample(t)
		must(t, k.do(s, k.name))
		check(t, k.what+" "+k.name, linesOf(s, k.name), k.want)
		if got := s.Kind(k.name); got != k.kind {
			t.Errorf("%s %s: the kind %d", k.what, k.name, got)
		}
		if got := state(s); k.name == "new" && strings.Replace(got, "new="+strconv.Itoa(k.kind)+k.want.lines+";", "", 1) != sampleState {
			t.Errorf("%s %s: %s", k.what, k.name, got)
		}
	}
}

func TestLinesThatAreMade(t *testing.T) {
	const most = 1000000
	boxes := make([]api.Box, 2001)
	odd := []api.Box{{Kind: 99, Width: math.MinInt, Font: -1, Size: -1, Name: "a b", Colour: "\n", N: []int{math.MaxInt}}}
	long := strings.Repeat("x", 2000)
	for _, k := range []struct {
		line api.Line
		want api.Errno
	}{
		{api.Line{}, api.OK},
		{api.Line{Text: long}, api.OK},
		{api.Line{Made: true}, api.OK},
		{api.Line{Made: true, Up: most, Down: most}, api.OK},
		{api.Line{Made: true, Up: -most, Down: -most}, api.OK},
		{api.Line{Made: true, Boxes: boxes[:2000]}, api.OK},
		{api.Line{Made: true, Boxes: odd}, api.OK},
		{api.Line{Made: true, Boxes: []api.Box{}}, api.OK},
		{api.Line{Text: "x", Boxes: []api.Box{}}, api.OK},
		{made(), api.OK},
		{api.Line{Text: long + "x"}, api.ErrArg},
		{api.Line{Text: "x\ny"}, api.ErrArg},
		{api.Line{Text: "\n"}, api.ErrArg},
		{api.Line{Made: true, Text: "x"}, api.ErrArg},
		{api.Line{Made: true, Text: "x", Up: 1, Boxes: odd}, api.ErrArg},
		{api.Line{Made: true, Up: most + 1}, api.ErrArg},
		{api.Line{Made: true, Down: most + 1}, api.ErrArg},
		{api.Line{Made: true, Up: -most - 1}, api.ErrArg},
		{api.Line{Made: true, Down: -most - 1}, api.ErrArg},
		{api.Line{Made: true, Up: math.MinInt}, api.ErrArg},
		{api.Line{Made: true, Down: math.MaxInt}, api.ErrArg},
		{api.Line{Made: true, Boxes: boxes}, api.ErrArg},
		{api.Line{Text: "x", Up: 1}, api.ErrArg},
		{api.Line{Text: "x", Down: -1}, api.ErrArg},
		{api.Line{Text: "x", Boxes: odd}, api.ErrArg},
	} {
		for name, c := range map[string]func(s *Store, name string, l []api.Line) api.Errno{"Macro": (*Store).Macro, "Add": (*Store).Add} {
			for _, at := range texts("a", "f", "new") {
				s := sample(t)
				lines := []api.Line{{Text: "x"}, k.line, made()}
				if got := c(s, at, lines); got != k.want {
					t.Errorf("%s %.200v: %v", name, k.line, got)
				}
				if k.want == api.OK {
					check(t, name, linesOf(s, at), has(lines...))
				} else {
					checkState(t, name, s, sampleState)
				}
			}
		}
	}
}

func TestMacrosAtTheLimit(t *testing.T) {
	for name, c := range map[string]func(s *Store, name string, l []api.Line) api.Errno{"Macro": (*Store).Macro, "Add": (*Store).Add} {
		for _, at := range texts("a", "f", "new") {
			s := sample(t)
			must(t, c(s, at, many(2000)))
			check(t, name+" 2000", linesOf(s, at), has(many(2000)...))
			check(t, name+" 2000", lengthOf(s, at), count(2000))
			for _, n := range []int{2001, 50000} {
				s = sample(t)
				if got := c(s, at, many(n)); got != api.ErrLimit {
					t.Errorf("%s of %d lines: %v", name, n, got)
				}
				checkState(t, name, s, sampleState)
			}
		}
	}
	for _, k := range []struct {
		there, behind int
		want          api.Errno
	}{
		{1999, 1, api.OK}, {1, 1999, api.OK}, {2000, 0, api.OK}, {1000, 1000, api.OK},
		{2000, 1, api.ErrLimit}, {1999, 2, api.ErrLimit}, {1, 2000, api.ErrLimit}, {2000, 2000, api.ErrLimit},
	} {
		s := New()
		must(t, s.Macro("m", many(k.there)))
		want := many(k.there)
		if k.want == api.OK {
			want = append(want, many(k.behind)...)
		}
		if got := s.Add("m", many(k.behind)); got != k.want {
			t.Errorf("%d lines behind %d: %v", k.behind, k.there, got)
		}
		check(t, "Add", linesOf(s, "m"), has(want...))
	}
	s := sample(t)
	must(t, s.Macro("m", many(2000)), s.Macro("m", many(2000)))
	check(t, "Macro over a macro", lengthOf(s, "n"), count(2000))
}

func TestWhatIsTold(t *testing.T) {
	s := sample(t)
	for _, name := range texts("a", "b") {
		check(t, "Text", textOf(s, name), says("one"))
		check(t, "Lines", linesOf(s, name), has(api.Line{Text: "one"}))
		check(t, "Length", lengthOf(s, name), count(3))
		check(t, "Kind", count(s.Kind(name)), count(1))
	}
	for _, name := range texts("m", "n") {
		check(t, "Text", textOf(s, name), gave(api.ErrName))
		check(t, "Lines", linesOf(s, name), has(plain("x", "y")...))
		check(t, "Length", lengthOf(s, name), count(2))
		check(t, "Kind", count(s.Kind(name)), count(2))
	}
	check(t, "Text of an empty string", textOf(s, "e"), says(""))
	check(t, "Lines of an empty string", linesOf(s, "e"), has(api.Line{}))
	check(t, "Length of an empty string", lengthOf(s, "e"), count(0))
	check(t, "Kind of an empty string", count(s.Kind("e")), count(1))
	check(t, "Text of an empty macro", textOf(s, "f"), gave(api.ErrName))
	check(t, "Lines of an empty macro", linesOf(s, "f"), has())
	check(t, "Length of an empty macro", lengthOf(s, "f"), count(0))
	check(t, "Kind of an empty macro", count(s.Kind("f")), count(2))
	must(t, s.Macro("a", plain("one")))
	check(t, "Text of a macro of one line", textOf(s, "b"), gave(api.ErrName))
	checkState(t, "telling changes nothing", sample(t), sampleState)
}

func TestLengthsAreBytes(t *testing.T) {
	s := New()
	must(t, s.Define("a", "é\xff"))
	check(t, "Length", lengthOf(s, "a"), count(3))
	must(t, s.Chop("a"), s.Chop("a"))
	check(t, "Chop", textOf(s, "a"), says("\xc3"))
}

func TestNamesThatAreNotThere(t *testing.T) {
	wants := map[string]outcome{
		"Text": gave(api.ErrName), "Lines": gave(api.ErrName), "Length": gave(api.ErrName), "Remove": gave(api.OK),
		"Rename from": gave(api.ErrName), "Alias of": gave(api.ErrName), "Chop": gave(api.ErrName), "Part": gave(api.ErrName),
	}
	for _, c := range calls() {
		want, named := wants[c.what]
		if !named {
			continue
		}
		s := good(t)
		before := state(s)
		check(t, c.what, c.do(s, "new"), want)
		checkState(t, c.what, s, before)
		check(t, c.what, count(s.Kind("new")), count(0))
		check(t, c.what+" of another case", c.do(s, "GOOD"), want)
	}
	s := good(t)
	check(t, "Rename to itself", gave(s.Rename("new", "new")), gave(api.ErrName))
	check(t, "Alias to itself", gave(s.Alias("new", "new")), gave(api.ErrName))
	check(t, "Rename onto one that is there", gave(s.Rename("new", "good")), gave(api.ErrName))
	check(t, "Alias onto one that is there", gave(s.Alias("good", "new")), gave(api.ErrName))
	check(t, "good stays", textOf(s, "good"), says("g"))
}

func TestNamesAscend(t *testing.T) {
	s := New()
	if len(s.Names()) != 0 {
		t.Error("a new store has names", s.Names())
	}
	for i, name := range texts("b", "a", "B", "~", "!", "10", "9", "aa") {
		must(t, makers()[i%4].do(s, name).err)
	}
	must(t, s.Alias("ab", "a"))
	want := texts("!", "10", "9", "B", "a", "aa", "ab", "b", "~")
	names := s.Names()
	if !slices.Equal(names, want) {
		t.Error("Names", names)
	}
	names[0] = "changed"
	if !slices.Equal(s.Names(), want) {
		t.Error("Names is not apart", s.Names())
	}
}

// P3.3

func TestRoomForNames(t *testing.T) {
	for _, c := range makers() {
		s := filled(t, 499)
		check(t, c.what+" of a 500th name", c.do(s, "last"), gave(api.OK))
		before := state(s)
		check(t, c.what+" of a 501st name", c.do(s, "new"), gave(api.ErrFull))
		checkState(t, c.what, s, before)
		for _, again := range makers() {
			check(t, again.what+" of a name that is there", again.do(s, "r7"), gave(api.OK))
			check(t, again.what+" of the last name", again.do(s, "last"), gave(api.OK))
		}
		must(t, s.Rename("r7", "other"))
		check(t, c.what+" where one was renamed", c.do(s, "new"), gave(api.ErrFull))
		must(t, s.Remove("r8"))
		check(t, c.what+" where one was removed", c.do(s, "new"), gave(api.OK))
		check(t, c.what+" of a 501st name", c.do(s, "newer"), gave(api.ErrFull))
		must(t, s.Rename("r11", "r12"))
		check(t, c.what+" where one was renamed to another", c.do(s, "newer"), gave(api.OK))
		check(t, c.what+" of a 501st name", c.do(s, "newest"), gave(api.ErrFull))
		if len(s.Names()) != 500 {
			t.Error(c.what, "names", len(s.Names()))
		}
	}
}

func TestAliasesCountAsNames(t *testing.T) {
	s := good(t)
	for i := range 499 {
		must(t, s.Alias("r"+strconv.Itoa(i), "good"))
	}
	check(t, "Alias of a 501st name", gave(s.Alias("new", "good")), gave(api.ErrFull))
	check(t, "Define of a 501st name", gave(s.Define("new", "x")), gave(api.ErrFull))
	check(t, "an alias that it is already", gave(s.Alias("r7", "r8")), gave(api.OK))
	must(t, s.Remove("r7"), s.Alias("new", "good"))
	check(t, "Alias of a 501st name", gave(s.Alias("newer", "good")), gave(api.ErrFull))
	must(t, s.Define("new", "all"))
	check(t, "500 names of one entry", textOf(s, "r498"), says("all"))
}

// change is one that an entry can undergo by any of its names.
type change struct {
	what string
	do   func(s *Store, name string) api.Errno
}

func changes() []change {
	return []change{
		{"Define", func(s *Store, name string) api.Errno { return s.Define(name, "d") }},
		{"Define empty", func(s *Store, name string) api.Errno { return s.Define(name, "") }},
		{"Append", func(s *Store, name string) api.Errno { return s.Append(name, "a") }},
		{"Macro", func(s *Store, name string) api.Errno { return s.Macro(name, []api.Line{{Text: "m"}, made()}) }},
		{"Macro of nothing", func(s *Store, name string) api.Errno { return s.Macro(name, nil) }},
		{"Add", func(s *Store, name string) api.Errno { return s.Add(name, plain("a", "b")) }},
		{"Chop", func(s *Store, name string) api.Errno { return s.Chop(name) }},
		{"Part", func(s *Store, name string) api.Errno { return s.Part(name, 1, 1) }},
	}
}

func TestAliasesTellTheSame(t *testing.T) {
	for _, start := range texts("a", "m", "e", "f") {
		for _, first := range changes() {
			for _, second := range changes() {
				s, lone := sample(t), sample(t)
				must(t, s.Alias("p", start), s.Alias("q", "p"))
				must(t, first.do(s, "q"), second.do(s, start), first.do(s, "p"))
				must(t, first.do(lone, start), second.do(lone, start), first.do(lone, start))
				for _, name := range texts(start, "p", "q") {
					what := start + ": " + first.what + ", " + second.what + " told by " + name
					check(t, what, linesOf(s, name), linesOf(lone, start))
					check(t, what, textOf(s, name), textOf(lone, start))
					check(t, what, lengthOf(s, name), lengthOf(lone, start))
					check(t, what, count(s.Kind(name)), count(lone.Kind(start)))
				}
			}
		}
	}
}

func TestWhatHasNoAliasStaysApart(t *testing.T) {
	for _, c := range changes() {
		s := sample(t)
		must(t, s.Define("c", "one"), s.Macro("o", plain("x", "y")))
		before := state(s)
		must(t, c.do(s, "c"), c.do(s, "o"), s.Define("c", "one"), s.Macro("o", plain("x", "y")))
		checkState(t, c.what, s, before)
	}
}

func TestAliasToItself(t *testing.T) {
	for _, name := range texts("a", "b", "m", "e", "f") {
		s := sample(t)
		check(t, name, gave(s.Alias(name, name)), gave(api.ErrLoop))
		checkState(t, name, s, sampleState)
		checkShares(t, name, s, "a", "b")
	}
}

func TestAliasThatItIsAlready(t *testing.T) {
	s := sample(t)
	must(t, s.Alias("b", "a"), s.Alias("a", "b"), s.Alias("n", "m"))
	checkState(t, "Alias", s, sampleState)
	checkShares(t, "Alias", s, "a", "b")
	checkShares(t, "Alias", s, "m", "n")
}

func TestAliasOverWhatIsThere(t *testing.T) {
	s := sample(t)
	must(t, s.Alias("a", "m"))
	check(t, "fresh loses what it had", linesOf(s, "a"), has(plain("x", "y")...))
	check(t, "its entry stays for others", textOf(s, "b"), says("one"))
	checkShares(t, "Alias", s, "a", "m", "n")
	checkShares(t, "Alias", s, "b")
	must(t, s.Alias("e", "b"), s.Alias("m", "b"))
	checkShares(t, "Alias", s, "a", "n")
	checkShares(t, "Alias", s, "b", "e", "m")
	must(t, s.Append("m", "!"), s.Chop("n"))
	check(t, "m", textOf(s, "b"), says("one!"))
	check(t, "n", linesOf(s, "a"), has(api.Line{Text: "x"}))
}

func TestRemove(t *testing.T) {
	s := sample(t)
	must(t, s.Remove("a"))
	check(t, "the name is gone", count(s.Kind("a")), count(0))
	check(t, "the name is gone", textOf(s, "a"), gave(api.ErrName))
	check(t, "the entry stays", textOf(s, "b"), says("one"))
	must(t, s.Define("a", "new"))
	check(t, "a new entry is another", textOf(s, "b"), says("one"))
	must(t, s.Append("b", "!"))
	check(t, "a new entry is another", textOf(s, "a"), says("new"))
	must(t, s.Remove("a"), s.Remove("b"), s.Remove("b"), s.Remove("m"), s.Remove("n"), s.Remove("e"), s.Remove("f"))
	if len(s.Names()) != 0 {
		t.Error("Names", s.Names())
	}
	must(t, s.Append("a", "x"), s.Add("m", plain("z")))
	check(t, "nothing is left of a string", textOf(s, "a"), says("x"))
	check(t, "nothing is left of a macro", linesOf(s, "m"), has(plain("z")...))
}

func TestRename(t *testing.T) {
	for _, k := range []struct {
		from, to string
		names    []string
		groups   [][]string
	}{
		{"a", "z", texts("b", "e", "f", "m", "n", "z"), [][]string{{"b", "z"}, {"m", "n"}}},
		{"e", "z", texts("a", "b", "f", "m", "n", "z"), [][]string{{"a", "b"}, {"z"}}},
		{"a", "m", texts("b", "e", "f", "m", "n"), [][]string{{"b", "m"}, {"n"}}},
		{"m", "e", texts("a", "b", "e", "f", "n"), [][]string{{"a", "b"}, {"e", "n"}}},
		{"a", "b", texts("b", "e", "f", "m", "n"), [][]string{{"b"}, {"m", "n"}}},
		{"b", "a", texts("a", "e", "f", "m", "n"), [][]string{{"a"}, {"m", "n"}}},
		{"a", "a", texts("a", "b", "e", "f", "m", "n"), [][]string{{"a", "b"}, {"m", "n"}}},
		{"f", "f", texts("a", "b", "e", "f", "m", "n"), [][]string{{"f"}}},
	} {
		s := sample(t)
		had, kind := linesOf(s, k.from), s.Kind(k.from)
		must(t, s.Rename(k.from, k.to))
		what := k.from + " to " + k.to
		check(t, what, linesOf(s, k.to), had)
		check(t, what, count(s.Kind(k.to)), count(kind))
		if !slices.Equal(s.Names(), k.names) {
			t.Errorf("%s: %v", what, s.Names())
		}
		for _, group := range k.groups {
			checkShares(t, what, s, group...)
		}
	}
	s := sample(t)
	must(t, s.Rename("a", "z"), s.Define("a", "new"))
	check(t, "a new entry of the old name is another", textOf(s, "b"), says("one"))
	checkShares(t, "a new entry of the old name", s, "a")
}

func TestChop(t *testing.T) {
	s := New()
	must(t, s.Define("a", "abc"), s.Macro("m", []api.Line{{Text: "x"}, made(), {Text: "z"}}))
	for _, want := range texts("ab", "a", "", "", "") {
		must(t, s.Chop("a"))
		check(t, "Chop", textOf(s, "a"), says(want))
		check(t, "Chop", count(s.Kind("a")), count(1))
	}
	for _, want := range [][]api.Line{{{Text: "x"}, made()}, {{Text: "x"}}, {}, {}, {}} {
		must(t, s.Chop("m"))
		check(t, "Chop", linesOf(s, "m"), has(want...))
		check(t, "Chop", count(s.Kind("m")), count(2))
	}
	must(t, s.Append("a", "z"), s.Add("m", plain("z")))
	check(t, "Append to what was chopped", textOf(s, "a"), says("z"))
	check(t, "Add to what was chopped", linesOf(s, "m"), has(plain("z")...))
}

// part is a plain account of which of n bytes or lines Part leaves.
func part(n, from, to int) []int {
	if from < 0 {
		from += n
	}
	if to < 0 {
		to += n
	}
	var left []int
	for i := range n {
		if from <= i && i <= to || to <= i && i <= from {
			left = append(left, i)
		}
	}
	return left
}

func TestPart(t *testing.T) {
	const letters = "abcdef"
	places := []int{math.MinInt, math.MinInt + 1, -1000000001, math.MaxInt - 1, math.MaxInt, 1000000001, 2000}
	for place := -9; place <= 9; place++ {
		places = append(places, place)
	}
	for n := range 7 {
		for _, from := range places {
			for _, to := range places {
				text, lines := "", []api.Line{}
				for _, i := range part(n, from, to) {
					text += letters[i : i+1]
					lines = append(lines, many(n)[i])
				}
				what := fmt.Sprintf("Part(%d, %d) of %d", from, to, n)
				s := New()
				must(t, s.Define("a", letters[:n]), s.Part("a", from, to), s.Macro("m", many(n)), s.Part("m", from, to))
				check(t, what, textOf(s, "a"), says(text))
				check(t, what, linesOf(s, "m"), has(lines...))
				check(t, what, count(s.Kind("a")), count(1))
				check(t, what, count(s.Kind("m")), count(2))
				must(t, s.Append("a", "z"), s.Add("m", plain("z")))
				check(t, what+" and more", textOf(s, "a"), says(text+"z"))
				check(t, what+" and more", linesOf(s, "m"), has(append(lines, api.Line{Text: "z"})...))
			}
		}
	}
}

func TestPartByHand(t *testing.T) {
	for _, k := range []struct {
		from, to int
		want     string
	}{
		{1, -2, "bcd"}, {0, -1, "abcde"}, {0, 0, "a"}, {-1, -1, "e"}, {4, 4, "e"}, {3, 1, "bcd"}, {-1, 0, "abcde"}, {-2, 1, "bcd"},
		{-1, -3, "cde"}, {2, 99, "cde"}, {99, 2, "cde"}, {-99, 1, "ab"}, {1, -99, "ab"}, {-99, 99, "abcde"}, {5, 9, ""}, {9, 5, ""},
		{-6, -9, ""}, {-9, -6, ""}, {-5, -6, "a"}, {5, -1, "e"}, {5, 5, ""}, {-6, -6, ""},
	} {
		s := New()
		must(t, s.Define("a", "abcde"), s.Part("a", k.from, k.to))
		check(t, fmt.Sprintf("Part(%d, %d)", k.from, k.to), textOf(s, "a"), says(k.want))
	}
}

// P3.4

func TestAppendOfPartsIsDefineOfTheWhole(t *testing.T) {
	const whole = "ab\\c \t\xff\"é."
	lines := []api.Line{{Text: "x"}, made(), {}, {Made: true}, made(), {Text: "z"}}
	for i := range len(whole) + 1 {
		for j := i; j <= len(whole); j++ {
			parts, defined := New(), New()
			must(t, defined.Define("a", whole))
			must(t, parts.Append("a", whole[:i]), parts.Append("a", whole[i:j]), parts.Append("a", whole[j:]))
			checkState(t, "Append", parts, state(defined))
		}
	}
	for i := range len(lines) + 1 {
		for j := i; j <= len(lines); j++ {
			parts, defined := New(), New()
			must(t, defined.Macro("m", lines))
			must(t, parts.Add("m", lines[:i]), parts.Add("m", lines[i:j]), parts.Add("m", lines[j:]))
			checkState(t, "Add", parts, state(defined))
		}
	}
}

// apartChanges are those of a store that a copy must not see.
func apartChanges() []change {
	var l []change
	for _, c := range changes() {
		for _, name := range texts("a", "b", "m", "n") {
			l = append(l, change{c.what + " " + name, func(s *Store, _ string) api.Errno { return c.do(s, name) }})
		}
	}
	return append(l,
		change{"Define new", func(s *Store, _ string) api.Errno { return s.Define("new", "x") }},
		change{"Remove", func(s *Store, _ string) api.Errno { return s.Remove("a") }},
		change{"Rename", func(s *Store, _ string) api.Errno { return s.Rename("a", "m") }},
		change{"Alias", func(s *Store, _ string) api.Errno { return s.Alias("a", "m") }},
	)
}

func TestCopiesAreApart(t *testing.T) {
	for _, c := range apartChanges() {
		s := sample(t)
		copied := s.Copy()
		checkState(t, c.what, copied, sampleState)
		must(t, c.do(copied, ""))
		if state(copied) == sampleState {
			t.Errorf("%s did nothing", c.what)
		}
		checkState(t, c.what+" in the copy", s, sampleState)
		checkShares(t, c.what+" in the copy", s, "a", "b")

		s = sample(t)
		copied = s.Copy()
		must(t, c.do(s, ""))
		checkState(t, c.what+" in the original", copied, sampleState)
		checkShares(t, c.what+" in the original", copied, "a", "b")
		checkShares(t, c.what+" in the original", copied, "m", "n")
	}
}

func TestAliasesHoldWithinCopies(t *testing.T) {
	copied := sample(t).Copy().Copy()
	checkShares(t, "a copy", copied, "a", "b")
	checkShares(t, "a copy", copied, "m", "n")
	checkShares(t, "a copy", copied, "e")
	checkShares(t, "a copy", copied, "f")
	must(t, copied.Append("b", "!"), copied.Add("n", plain("z")))
	check(t, "a copy", textOf(copied, "a"), says("one!"))
	check(t, "a copy", linesOf(copied, "m"), has(plain("x", "y", "z")...))
}

func TestCopiesGrowApart(t *testing.T) {
	for _, prepare := range []func(s *Store) api.Errno{
		func(s *Store) api.Errno { return s.Add("m", plain("z")) },
		func(s *Store) api.Errno { return s.Chop("m") },
		func(s *Store) api.Errno { return s.Part("m", 0, 0) },
	} {
		s := sample(t)
		must(t, s.Add("m", many(3)), prepare(s))
		copied := s.Copy()
		before, _ := s.Lines("m")
		must(t, s.Add("m", plain("of s")), copied.Add("m", plain("of the copy")), s.Add("m", plain("more of s")))
		check(t, "s", linesOf(s, "m"), has(append(slices.Clone(before), plain("of s", "more of s")...)...))
		check(t, "the copy", linesOf(copied, "m"), has(append(slices.Clone(before), plain("of the copy")...)...))
	}
}

func TestCopiesOfEmptyAndOfFullStores(t *testing.T) {
	s := New()
	copied := s.Copy()
	if copied == nil || copied.Define("a", "x") != api.OK || s.Kind("a") != 0 || New().Kind("a") != 0 {
		t.Error("a copy of a new store")
	}
	copied = filled(t, 500).Copy()
	check(t, "a copy of a full store", gave(copied.Define("new", "x")), gave(api.ErrFull))
	must(t, copied.Remove("r3"), copied.Define("new", "x"))
}

// What is handed in or out is not shared with the store (R5).

// spoil changes all that lines have.
func spoil(lines []api.Line) {
	for i := range lines {
		for j := range lines[i].Boxes {
			for k := range lines[i].Boxes[j].N {
				lines[i].Boxes[j].N[k] = 99
			}
			lines[i].Boxes[j] = api.Box{Name: "spoilt"}
		}
		lines[i] = api.Line{Text: "spoilt"}
	}
}

func TestWhatIsHandedInIsNotShared(t *testing.T) {
	s := New()
	lines := []api.Line{made(), {Text: "x"}}
	boxes, numbers := lines[0].Boxes, lines[0].Boxes[0].N
	must(t, s.Macro("m", lines), s.Add("n", lines), s.Add("n", lines[:1]))
	before := state(s)
	if show(lines) != show([]api.Line{made(), {Text: "x"}}) {
		t.Error("an argument was changed", lines)
	}
	numbers[1], boxes[1].Name, lines[1].Text = 77, "changed", "changed"
	spoil(lines)
	checkState(t, "changed arguments", s, before)
	check(t, "changed arguments", linesOf(s, "n"), has(made(), api.Line{Text: "x"}, made()))
}

func TestSpareMemoryOfArgumentsIsNotTouched(t *testing.T) {
	s := New()
	all := many(4)
	must(t, s.Macro("m", all[:2]), s.Add("m", plain("y")), s.Add("n", all[:2]), s.Add("n", plain("z")))
	if show(all) != show(many(4)) {
		t.Error("lines behind an argument were changed", all)
	}
}

func TestWhatIsHandedOutIsNotShared(t *testing.T) {
	s := New()
	must(t, s.Macro("m", []api.Line{made(), {Text: "x"}}), s.Define("a", "one"))
	copied := s.Copy()
	before := state(s)
	for _, name := range texts("m", "a") {
		out, _ := s.Lines(name)
		spoil(out)
		checkState(t, "changed results", s, before)
		checkState(t, "changed results, the copy", copied, before)
		out, _ = copied.Lines(name)
		spoil(out)
		checkState(t, "changed results of the copy", s, before)
	}
	out, _ := s.Lines("m")
	out = append(out, api.Line{Text: "more"})
	out[0].Boxes = append(out[0].Boxes, api.Box{})
	out[0].Boxes[0].N = append(out[0].Boxes[0].N, 3)
	checkState(t, "longer results", s, before)
}

func TestLinesOfOneResultShareNothing(t *testing.T) {
	s := New()
	one := made()
	must(t, s.Macro("m", []api.Line{one, one}), s.Add("m", []api.Line{one}))
	out, _ := s.Lines("m")
	out[0].Boxes[0].N[0], out[0].Boxes[1].Name = 99, "changed"
	if show(out[1:]) != show([]api.Line{made(), made()}) {
		t.Error("lines of one result share boxes", out)
	}
}

// picker chooses the same numbers in each run.
type picker uint64

func (p *picker) below(n int) int {
	*p = *p*6364136223846793005 + 1442695040888963407
	return int(uint64(*p)>>33) % n
}

// account is a plain one of what an entry should have: the bytes of a string, or the lines of a macro.
type account struct {
	kind  int
	parts []string
}

func (a *account) become(kind int, parts []string, behind bool) {
	if behind && a.kind == kind {
		parts = append(slices.Clone(a.parts), parts...)
	}
	a.kind, a.parts = kind, parts
}

// mirror has accounts by names; those that share an entry have the same one.
type mirror map[string]*account

func (m mirror) at(name string) *account {
	if m[name] == nil {
		m[name] = &account{}
	}
	return m[name]
}

func (m mirror) state() string {
	s := New()
	for name, a := range m {
		if a.kind == 1 {
			s.Define(name, strings.Join(a.parts, ""))
		} else {
			s.Macro(name, plain(a.parts...))
		}
	}
	return state(s)
}

// step does one thing with a store and with its mirror, and returns the error of each.
func step(p *picker, s *Store, m mirror) (got, want api.Errno) {
	names := texts("a", "b", "c", "d", "e", "f")
	name, other := names[p.below(len(names))], names[p.below(len(names))]
	parts := texts("u", "v", "w", "x")[:p.below(5)]
	from, to := p.below(20)-10, p.below(20)-10
	a := m[name]
	switch kind := p.below(10); kind {
	case 0, 1:
		m.at(name).become(1, parts, kind == 1)
		return []func(name, text string) api.Errno{s.Define, s.Append}[kind](name, strings.Join(parts, "")), api.OK
	case 2, 3:
		m.at(name).become(2, parts, kind == 3)
		return []func(name string, l []api.Line) api.Errno{s.Macro, s.Add}[kind-2](name, plain(parts...)), api.OK
	case 4:
		delete(m, name)
		return s.Remove(name), api.OK
	}
	if a == nil {
		return []func() api.Errno{
			func() api.Errno { return s.Chop(name) },
			func() api.Errno { return s.Part(name, from, to) },
			func() api.Errno { return s.Rename(name, other) },
			func() api.Errno { return s.Alias(other, name) },
		}[p.below(4)](), api.ErrName
	}
	switch p.below(4) {
	case 0:
		a.parts = a.parts[:max(0, len(a.parts)-1)]
		return s.Chop(name), api.OK
	case 1:
		var left []string
		for _, i := range part(len(a.parts), from, to) {
			left = append(left, a.parts[i])
		}
		a.parts = left
		return s.Part(name, from, to), api.OK
	case 2:
		delete(m, name)
		m[other] = a
		return s.Rename(name, other), api.OK
	}
	if name == other {
		return s.Alias(other, name), api.ErrLoop
	}
	m[other] = a
	return s.Alias(other, name), api.OK
}

func TestLongHistories(t *testing.T) {
	var p picker = 3
	s, m := New(), mirror{}
	for i := range 20000 {
		if got, want := step(&p, s, m); got != want {
			t.Fatalf("call %d: %v, want %v", i, got, want)
		}
		if got, want := state(s), m.state(); got != want {
			t.Fatalf("call %d: %q, want %q", i, got, want)
		}
		if i%1000 == 0 { // an entry that grows on would meet its limit
			s, m = New(), mirror{}
		}
		if i%7 == 0 {
			s = s.Copy()
		}
	}
}
