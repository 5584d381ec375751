package register

import (
	"math"
	"slices"
	"strconv"
	"strings"
	"testing"

	"frisket/api"
)

// outcome is what a call returned, so that whole answers can be compared.
type outcome struct {
	n    int
	text string
	err  api.Errno
}

// call is one call of a book by a name, as the tests go through them.
type call struct {
	what string
	do   func(b *Book, name string) outcome
}

func calls() []call {
	return []call{
		{"Set", func(b *Book, name string) outcome { return outcome{err: b.Set(name, 4)} }},
		{"Step", func(b *Book, name string) outcome { return outcome{err: b.Step(name, 4)} }},
		{"Format", func(b *Book, name string) outcome { return outcome{err: b.Format(name, "i")} }},
		{"Value", value},
		{"Text", text1},
		{"Move up", func(b *Book, name string) outcome { return move(b, name, true) }},
		{"Move down", func(b *Book, name string) outcome { return move(b, name, false) }},
		{"FormatOf", formatOf},
		{"Remove", func(b *Book, name string) outcome { return outcome{err: b.Remove(name)} }},
		{"Rename from", func(b *Book, name string) outcome { return outcome{err: b.Rename(name, "good")} }},
		{"Rename to", func(b *Book, name string) outcome { return outcome{err: b.Rename("good", name)} }},
	}
}

// makers are the calls that make a register that is not there.
func makers() []call { return calls()[:3] }

func value(b *Book, name string) outcome {
	n, err := b.Value(name)
	return outcome{n: n, err: err}
}

func text1(b *Book, name string) outcome {
	s, err := b.Text(name)
	return outcome{text: s, err: err}
}

func formatOf(b *Book, name string) outcome {
	s, err := b.FormatOf(name)
	return outcome{text: s, err: err}
}

func move(b *Book, name string, up bool) outcome {
	n, err := b.Move(name, up)
	return outcome{n: n, err: err}
}

func write(n int, form string) outcome {
	s, err := Write(n, form)
	return outcome{text: s, err: err}
}

func readRoman(s string) outcome {
	n, err := Roman(s)
	return outcome{n: n, err: err}
}

func is(n int) outcome         { return outcome{n: n} }
func says(s string) outcome    { return outcome{text: s} }
func no(err api.Errno) outcome { return outcome{err: err} }

// state is all that a book tells of its registers.
func state(b *Book) string {
	var s strings.Builder
	for _, name := range b.Names() {
		copied := b.Copy()
		n, _ := copied.Value(name)
		form, _ := copied.FormatOf(name)
		written, _ := copied.Text(name)
		copied.Set(name, 0)
		step, _ := copied.Move(name, true)
		s.WriteString(name + "=" + strconv.Itoa(n) + "," + strconv.Itoa(step) + "," + form + "," + written + ";")
	}
	return s.String()
}

func checkState(t *testing.T, b *Book, want string) {
	t.Helper()
	if got := state(b); got != want {
		t.Errorf("registers %q, want %q", got, want)
	}
}

// must is for the calls by which a test lays its registers out.
func must(t *testing.T, errs ...api.Errno) {
	t.Helper()
	for _, err := range errs {
		if err != api.OK {
			t.Fatal("unexpected error", err)
		}
	}
}

func sample(t *testing.T) *Book {
	t.Helper()
	b := New()
	must(t, b.Set("x", 5), b.Step("x", 3), b.Format("x", "01"), b.Set("y", -2), b.Format("y", "I"), b.Step("z", 7))
	return b
}

// full has as many registers as can be, of the names r0 to r499.
func full(t *testing.T) *Book {
	t.Helper()
	b := New()
	for i := range 500 {
		must(t, makers()[i%3].do(b, "r"+strconv.Itoa(i)).err)
	}
	return b
}

var badNames = []string{
	"", " ", "]", "a]", "]a", "a]b", "a b", " a", "a ", "a\tb", "a\nb", "\x00", "a\x20", "a\x7f", "\x80", "\xff", "é",
	strings.Repeat("a", 21), strings.Repeat("a", 20) + "]", strings.Repeat("a", 100000),
}

var goodNames = []string{
	"a", "!", "~", "[", "\\", "^", "7", "-", "a.b", "A", "%", strings.Repeat("a", 20), strings.Repeat("~", 20), "!\"#$%&'()*+,-./:;<=>",
}

// P2.1

func TestBooksThatAreNone(t *testing.T) {
	for _, b := range []*Book{nil, {}} {
		for _, name := range []string{"x", "", "a]", strings.Repeat("a", 21)} {
			for _, c := range calls() {
				if got := c.do(b, name); got != no(api.ErrArg) {
					t.Errorf("%s(%q) = %v", c.what, name, got)
				}
			}
			if b.Set(name, 2000000000) != api.ErrArg || b.Step(name, 2000000000) != api.ErrArg || b.Format(name, "q") != api.ErrArg {
				t.Errorf("%q: another error ahead of ErrArg", name)
			}
			if b.Has(name) {
				t.Errorf("Has(%q)", name)
			}
		}
		if len(b.Names()) != 0 || b.Copy() != nil {
			t.Error("Names or Copy", b.Names(), b.Copy())
		}
	}
}

func TestNamesThatCannotBe(t *testing.T) {
	for _, name := range badNames {
		for _, c := range calls() {
			b := New()
			must(t, b.Set("good", 1))
			if got := c.do(b, name); got != no(api.ErrName) {
				t.Errorf("%s(%q) = %v", c.what, name, got)
			}
			checkState(t, b, "good=1,0,0,1;")
			if b.Has(name) {
				t.Errorf("%s: Has(%q)", c.what, name)
			}
		}
	}
}

func TestNamesThatCanBe(t *testing.T) {
	for _, name := range goodNames {
		for _, c := range calls() {
			b := New()
			must(t, b.Set("good", 1), b.Set(name, 9))
			if got := c.do(b, name); got.err != api.OK {
				t.Errorf("%s(%q) = %v", c.what, name, got)
			}
		}
		for _, c := range makers() {
			b := New()
			if got := c.do(b, name); got.err != api.OK || !b.Has(name) {
				t.Errorf("%s(%q) = %v", c.what, name, got)
			}
		}
	}
}

func TestEveryByteOfNames(t *testing.T) {
	for c := range 256 {
		name := "a" + string([]byte{byte(c)}) + "b"
		want := api.ErrName
		if c >= 33 && c <= 126 && c != ']' {
			want = api.OK
		}
		if got := New().Set(name, 1); got != want {
			t.Errorf("byte %d: %v", c, got)
		}
	}
}

func TestOrderOfErrors(t *testing.T) {
	b := full(t)
	before := state(b)
	for what, got := range map[string][2]api.Errno{
		"a name ahead of a range, Set":      {b.Set("a]", 2000000000), api.ErrName},
		"a name ahead of a range, Step":     {b.Step("a]", 2000000000), api.ErrName},
		"a name ahead of a format":          {b.Format("a]", "q"), api.ErrName},
		"a name ahead of a full book":       {b.Set("a]", 1), api.ErrName},
		"a name ahead of a full book, Step": {b.Step("a]", 1), api.ErrName},
		"a name ahead of a full book, form": {b.Format("a]", "i"), api.ErrName},
		"a range ahead of a full book":      {b.Set("new", 2000000000), api.ErrRange},
		"a range ahead of one, Step":        {b.Step("new", -2000000000), api.ErrRange},
		"a format ahead of a full book":     {b.Format("new", "q"), api.ErrForm},
		"two names that cannot be":          {b.Rename("a]", "b]"), api.ErrName},
		"one not there, one that cannot be": {b.Rename("new", "b]"), api.ErrName},
	} {
		if got[0] != got[1] {
			t.Errorf("%s: %v", what, got[0])
		}
	}
	checkState(t, b, before)
	for _, form := range []string{"", "q", "0123456789"} {
		if got := write(2000000000, form); got != no(api.ErrForm) {
			t.Errorf("a format ahead of a range: %q %v", form, got)
		}
	}
}

func TestNumbersOutOfRange(t *testing.T) {
	b := sample(t)
	before := state(b)
	for _, n := range []int{1000000001, -1000000001, 2000000000, math.MaxInt, math.MinInt} {
		for _, name := range []string{"x", "new"} {
			if b.Set(name, n) != api.ErrRange || b.Step(name, n) != api.ErrRange {
				t.Errorf("%d is in the range", n)
			}
		}
		for _, form := range []string{"0", "000000000", "i", "I", "a", "A"} {
			if got := write(n, form); got != no(api.ErrRange) {
				t.Errorf("Write(%d, %q) = %v", n, form, got)
			}
		}
	}
	checkState(t, b, before)
	must(t, b.Set("x", 1000000000), b.Step("x", -1000000000), b.Set("y", -1000000000), b.Step("y", 1000000000))
	checkState(t, b, "x=1000000000,-1000000000,01,1000000000;y=-1000000000,1000000000,I,-1000000000;z=0,7,0,0;")
}

var badForms = []string{
	"", " ", "q", "z", "ii", "aa", "Ai", "iI", "i0", "0i", "a1", "1a", "1a1", "+1", "-1", "0.0", " 0", "0 ", "/", ":", "١",
	"0000000000", "1234567890", strings.Repeat("0", 100000),
}

func TestFormats(t *testing.T) {
	for _, form := range badForms {
		b := sample(t)
		before := state(b)
		for _, name := range []string{"x", "new"} {
			if err := b.Format(name, form); err != api.ErrForm {
				t.Errorf("Format(%q) = %v", form, err)
			}
		}
		checkState(t, b, before)
		if got := write(1, form); got != no(api.ErrForm) {
			t.Errorf("Write(1, %q) = %v", form, got)
		}
	}
	for _, form := range []string{"0", "1", "9", "00", "01", "90", "000000000", "123456789", "i", "I", "a", "A"} {
		b := New()
		if err := b.Format("x", form); err != api.OK {
			t.Errorf("Format(%q) = %v", form, err)
		}
		if got := formatOf(b, "x"); got != says(form) {
			t.Errorf("FormatOf of %q: %v", form, got)
		}
	}
}

func TestFullBooks(t *testing.T) {
	for _, c := range makers() {
		b := full(t)
		before := state(b)
		if len(b.Names()) != 500 {
			t.Fatal("not full", len(b.Names()))
		}
		if got := c.do(b, "new"); got != no(api.ErrFull) {
			t.Errorf("%s of a 501st register: %v", c.what, got)
		}
		checkState(t, b, before)
		for _, again := range calls() {
			if got := again.do(b.Copy(), "r7"); got.err != api.OK && !strings.HasPrefix(again.what, "Rename") {
				t.Errorf("%s of a register of a full book: %v", again.what, got)
			}
		}
		must(t, b.Rename("r7", "new"), b.Remove("r8"))
		if got := c.do(b, "newer"); got.err != api.OK || len(b.Names()) != 500 {
			t.Errorf("%s of a 500th register: %v", c.what, got)
		}
		if got := c.do(b, "newest"); got != no(api.ErrFull) {
			t.Errorf("%s of a 501st register: %v", c.what, got)
		}
	}
}

func TestRenamesThatMakeRoom(t *testing.T) {
	b := full(t)
	must(t, b.Rename("r1", "r2"), b.Set("new", 1))
	if len(b.Names()) != 500 || b.Has("r1") || b.Set("newer", 1) != api.ErrFull {
		t.Error("a name that was renamed to counts twice or not at all", len(b.Names()))
	}
}

// P2.2

func TestMakers(t *testing.T) {
	wants := map[string]string{"Set": "x=4,0,0,4;", "Step": "x=0,4,0,0;", "Format": "x=0,0,i,0;"}
	for _, c := range makers() {
		b := New()
		must(t, c.do(b, "x").err)
		checkState(t, b, wants[c.what])
	}
}

func TestChangesKeepTheRest(t *testing.T) {
	b := sample(t)
	must(t, b.Set("x", 6))
	checkState(t, b, "x=6,3,01,06;y=-2,0,I,-II;z=0,7,0,0;")
	must(t, b.Step("x", -4))
	checkState(t, b, "x=6,-4,01,06;y=-2,0,I,-II;z=0,7,0,0;")
	must(t, b.Format("x", "a"))
	checkState(t, b, "x=6,-4,a,f;y=-2,0,I,-II;z=0,7,0,0;")
	must(t, b.Format("x", "0"), b.Set("x", 0), b.Step("x", 0))
	checkState(t, b, "x=0,0,0,0;y=-2,0,I,-II;z=0,7,0,0;")
}

func TestRegistersThatAreNotThere(t *testing.T) {
	wants := map[string]outcome{
		"Value": is(0), "Text": says("0"), "FormatOf": says("0"), "Move up": is(0), "Move down": is(0), "Remove": {},
		"Rename from": no(api.ErrName),
	}
	for _, c := range calls() {
		want, named := wants[c.what]
		if !named {
			continue
		}
		b := sample(t)
		before := state(b)
		if got := c.do(b, "new"); got != want {
			t.Errorf("%s = %v, want %v", c.what, got, want)
		}
		checkState(t, b, before)
		if b.Has("new") {
			t.Errorf("%s made one", c.what)
		}
	}
}

func TestValuesAndTexts(t *testing.T) {
	b := sample(t)
	for name, want := range map[string]int{"x": 5, "y": -2, "z": 0, "X": 0} {
		if got := value(b, name); got != is(want) {
			t.Errorf("Value(%q) = %v", name, got)
		}
	}
	for name, want := range map[string]string{"x": "05", "y": "-II", "z": "0", "X": "0"} {
		if got := text1(b, name); got != says(want) {
			t.Errorf("Text(%q) = %v", name, got)
		}
	}
	for name, want := range map[string]string{"x": "01", "y": "I", "z": "0", "X": "0"} {
		if got := formatOf(b, name); got != says(want) {
			t.Errorf("FormatOf(%q) = %v", name, got)
		}
	}
	checkState(t, b, "x=5,3,01,05;y=-2,0,I,-II;z=0,7,0,0;")
}

func TestMoves(t *testing.T) {
	b := sample(t)
	for _, k := range []struct {
		name string
		up   bool
		want int
	}{
		{"x", true, 8}, {"x", true, 11}, {"x", false, 8}, {"z", false, -7}, {"z", false, -14}, {"z", true, -7}, {"y", true, -2}, {"y", false, -2},
	} {
		if got := move(b, k.name, k.up); got != is(k.want) {
			t.Errorf("%v: %v", k, got)
		}
		if got := value(b, k.name); got != is(k.want) {
			t.Errorf("%v: the value is %v", k, got)
		}
	}
	checkState(t, b, "x=8,3,01,08;y=-2,0,I,-II;z=-7,7,0,-7;")
	must(t, b.Step("x", -5))
	if up, down := move(b, "x", true), move(b, "x", false); up != is(3) || down != is(8) {
		t.Error("a step below 0", up, down)
	}
}

func TestMovesAtTheBounds(t *testing.T) {
	const most = 1000000000
	for _, k := range []struct {
		value, step int
		up          bool
		want        outcome
	}{
		{most - 1, 1, true, is(most)}, {most, 1, true, no(api.ErrRange)}, {most, -1, false, no(api.ErrRange)}, {most, 0, true, is(most)},
		{1 - most, 1, false, is(-most)}, {-most, 1, false, no(api.ErrRange)}, {-most, -1, true, no(api.ErrRange)}, {-most, 0, false, is(-most)},
		{most, most, true, no(api.ErrRange)}, {-most, most, false, no(api.ErrRange)}, {most, most, false, is(0)}, {-most, -most, false, is(0)},
		{0, most, true, is(most)}, {0, most, false, is(-most)}, {1, most, true, no(api.ErrRange)}, {-1, most, false, no(api.ErrRange)},
	} {
		b := New()
		must(t, b.Set("x", k.value), b.Step("x", k.step))
		before := state(b)
		if got := move(b, "x", k.up); got != k.want {
			t.Errorf("%v: %v", k, got)
		}
		if k.want.err != api.OK {
			checkState(t, b, before)
		} else if got := value(b, "x"); got != k.want {
			t.Errorf("%v: the value is %v", k, got)
		}
	}
}

func TestRemove(t *testing.T) {
	b := sample(t)
	must(t, b.Remove("y"), b.Remove("y"), b.Remove("Y"))
	checkState(t, b, "x=5,3,01,05;z=0,7,0,0;")
	must(t, b.Set("y", 1))
	checkState(t, b, "x=5,3,01,05;y=1,0,0,1;z=0,7,0,0;")
	must(t, b.Remove("x"), b.Remove("y"), b.Remove("z"), b.Remove("z"))
	if len(b.Names()) != 0 || b.Copy() == nil || b.Set("x", 1) != api.OK {
		t.Error("an empty book is none")
	}
}

func TestRename(t *testing.T) {
	for _, k := range []struct {
		from, to, want string
		err            api.Errno
	}{
		{"x", "new", "new=5,3,01,05;y=-2,0,I,-II;z=0,7,0,0;", api.OK},
		{"x", "y", "y=5,3,01,05;z=0,7,0,0;", api.OK},
		{"y", "x", "x=-2,0,I,-II;z=0,7,0,0;", api.OK},
		{"x", "x", "x=5,3,01,05;y=-2,0,I,-II;z=0,7,0,0;", api.OK},
		{"new", "x", "x=5,3,01,05;y=-2,0,I,-II;z=0,7,0,0;", api.ErrName},
		{"new", "new", "x=5,3,01,05;y=-2,0,I,-II;z=0,7,0,0;", api.ErrName},
		{"new", "newer", "x=5,3,01,05;y=-2,0,I,-II;z=0,7,0,0;", api.ErrName},
		{"x", "a b", "x=5,3,01,05;y=-2,0,I,-II;z=0,7,0,0;", api.ErrName},
	} {
		b := sample(t)
		if err := b.Rename(k.from, k.to); err != k.err {
			t.Errorf("Rename(%q, %q) = %v", k.from, k.to, err)
		}
		checkState(t, b, k.want)
	}
}

func TestHasAndNames(t *testing.T) {
	b := New()
	if len(b.Names()) != 0 {
		t.Error("a new book has registers", b.Names())
	}
	for _, name := range []string{"b", "a", "B", "ab", "~", "!", "10", "9", "aa"} {
		if b.Has(name) {
			t.Error("Has ahead", name)
		}
		must(t, b.Set(name, 1))
		if !b.Has(name) {
			t.Error("Has", name)
		}
	}
	want := []string{"!", "10", "9", "B", "a", "aa", "ab", "b", "~"}
	names := b.Names()
	if !slices.Equal(names, want) {
		t.Error("Names", names)
	}
	names[0] = "changed"
	if !slices.Equal(b.Names(), want) {
		t.Error("Names is not apart", b.Names())
	}
	for _, name := range badNames {
		if b.Has(name) {
			t.Errorf("Has(%q)", name)
		}
	}
}

func TestWriteDecimal(t *testing.T) {
	for _, k := range []struct {
		n          int
		form, want string
	}{
		{0, "0", "0"}, {7, "0", "7"}, {-7, "0", "-7"}, {1234, "0", "1234"}, {1234, "9", "1234"}, {-1234, "5", "-1234"},
		{7, "001", "007"}, {0, "000", "000"}, {-7, "00", "-07"}, {7, "79", "07"}, {99, "00", "99"}, {100, "00", "100"}, {-100, "00", "-100"},
		{5, "000000000", "000000005"}, {-5, "123456789", "-000000005"}, {1000000000, "000000000", "1000000000"},
		{1000000000, "0", "1000000000"}, {-1000000000, "0", "-1000000000"},
	} {
		if got := write(k.n, k.form); got != says(k.want) {
			t.Errorf("Write(%d, %q) = %v, want %q", k.n, k.form, got, k.want)
		}
	}
}

func TestWriteRoman(t *testing.T) {
	for n, want := range map[int]string{
		0: "0", 1: "i", 2: "ii", 3: "iii", 4: "iv", 5: "v", 6: "vi", 8: "viii", 9: "ix", 10: "x", 14: "xiv", 39: "xxxix", 40: "xl", 44: "xliv",
		49: "xlix", 50: "l", 90: "xc", 99: "xcix", 100: "c", 400: "cd", 444: "cdxliv", 500: "d", 900: "cm", 999: "cmxcix", 1000: "m", 1994: "mcmxciv",
		3888: "mmmdccclxxxviii", 4000: "mmmm", 4999: "mmmmcmxcix", 9000: strings.Repeat("m", 9),
		39000: strings.Repeat("m", 39), 39999: strings.Repeat("m", 39) + "cmxcix", 40000: "40000", 40001: "40001", 1000000000: "1000000000",
		-3: "-iii", -39999: "-" + strings.Repeat("m", 39) + "cmxcix", -40000: "-40000", -1000000000: "-1000000000",
	} {
		if got := write(n, "i"); got != says(want) {
			t.Errorf("Write(%d, i) = %v, want %q", n, got, want)
		}
		if got := write(n, "I"); got != says(strings.ToUpper(want)) {
			t.Errorf("Write(%d, I) = %v, want %q", n, got, strings.ToUpper(want))
		}
	}
}

func TestWriteLetters(t *testing.T) {
	for n, want := range map[int]string{
		0: "0", 1: "a", 2: "b", 25: "y", 26: "z", 27: "aa", 28: "ab", 52: "az", 53: "ba", 702: "zz", 703: "aaa", 704: "aab", 18278: "zzz", 18279: "aaaa",
		-1: "-a", -26: "-z", -27: "-aa", -703: "-aaa", 1000000000: "cfdgsxl", -1000000000: "-cfdgsxl",
	} {
		if got := write(n, "a"); got != says(want) {
			t.Errorf("Write(%d, a) = %v, want %q", n, got, want)
		}
		if got := write(n, "A"); got != says(strings.ToUpper(want)) {
			t.Errorf("Write(%d, A) = %v, want %q", n, got, strings.ToUpper(want))
		}
	}
}

func TestRomanReads(t *testing.T) {
	for s, want := range map[string]int{
		"i": 1, "I": 1, "iv": 4, "IX": 9, "xlix": 49, "MCMXCIV": 1994, "mmmm": 4000, strings.Repeat("m", 39) + "cmxcix": 39999,
	} {
		if got := readRoman(s); got != is(want) {
			t.Errorf("Roman(%q) = %v", s, got)
		}
	}
	for _, s := range []string{
		"", "0", "1", "q", " ", "i ", " i", "-i", "+i", "-iv", "40000", "iiii", "vv", "ll", "dd", "vx", "ic", "im", "il", "xm", "xd", "vl", "iix", "ivi", "ixi", "xcx",
		"cmc", "cmm", "iim", "viv", "vix", "ixx", "ivv", "cdc", "lxl", "Xi", "xI", "Iv", "iV", "MCMxciv", "mI", "ıv", "İ", "v\u0131", "ⅳ", "\u217d",
		strings.Repeat("m", 40), strings.Repeat("m", 40) + "i", strings.Repeat("m", 100000), strings.Repeat("i", 100000),
		"i\x00", "i\n", "\xff", "zero",
	} {
		if got := readRoman(s); got != no(api.ErrForm) {
			t.Errorf("Roman(%q) = %v", s, got)
		}
	}
}

// P2.3

func TestRomanOfWriteIsTheNumber(t *testing.T) {
	for n := 1; n <= 39999; n++ {
		for _, form := range []string{"i", "I"} {
			if got := readRoman(write(n, form).text); got != is(n) {
				t.Fatalf("%d in %s: %v", n, form, got)
			}
		}
	}
}

func TestRomanReadsNothingElse(t *testing.T) {
	const signs = "ivxlcdmI0"
	texts := []string{""}
	read := map[int]string{}
	for range 5 {
		var longer []string
		for _, s := range texts {
			for _, sign := range signs {
				longer = append(longer, s+string(sign))
			}
		}
		for _, s := range longer {
			n, err := Roman(s)
			small := err == api.OK && write(n, "i") == says(s)
			great := err == api.OK && write(n, "I") == says(s)
			if err == api.OK && !small && !great {
				t.Fatalf("Roman(%q) = %d", s, n)
			}
			if other, there := read[n]; small && there {
				t.Fatalf("%d is %q and %q", n, s, other)
			}
			if small {
				read[n] = s
			}
		}
		texts = longer
	}
}

// next is the text behind one of letters, as one counts.
func next(s string) string {
	at := len(s) - 1
	for at >= 0 && s[at] == 'z' {
		at--
	}
	zeros := strings.Repeat("a", len(s)-1-at)
	if at < 0 {
		return "a" + zeros
	}
	return s[:at] + string(s[at]+1) + zeros
}

func TestLettersHaveNoGaps(t *testing.T) {
	for _, from := range []int{1, 475000, 12356000, 321272000, 999999000} {
		upTo := min(from+30000, 1000000000)
		s := write(from, "a").text
		for n := from + 1; n <= upTo; n++ {
			s = next(s)
			if got := write(n, "a"); got != says(s) {
				t.Fatalf("%d is %v, want %q", n, got, s)
			}
			if got := write(n, "A"); got != says(strings.ToUpper(s)) {
				t.Fatalf("%d is %v, want %q", n, got, strings.ToUpper(s))
			}
		}
	}
}

func TestOtherNumbersHaveOtherTexts(t *testing.T) {
	for _, form := range []string{"a", "A", "i", "I", "0", "0000"} {
		seen := map[string]int{}
		for n := -45000; n <= 45000; n++ {
			s := write(n, form).text
			if other, there := seen[s]; there {
				t.Fatalf("%d and %d are %q in %s", other, n, s, form)
			}
			seen[s] = n
		}
	}
}

func TestCopiesAreApart(t *testing.T) {
	b := sample(t)
	before := state(b)
	changes := []func(b *Book) api.Errno{
		func(b *Book) api.Errno { return b.Set("x", 99) },
		func(b *Book) api.Errno { return b.Step("x", 99) },
		func(b *Book) api.Errno { return b.Format("x", "A") },
		func(b *Book) api.Errno { return b.Set("new", 99) },
		func(b *Book) api.Errno { return b.Remove("x") },
		func(b *Book) api.Errno { return b.Rename("x", "new") },
		func(b *Book) api.Errno { _, err := b.Move("x", true); return err },
	}
	for i, change := range changes {
		copied := b.Copy()
		checkState(t, copied, before)
		must(t, change(copied))
		if state(copied) == before {
			t.Errorf("change %d did nothing", i)
		}
		checkState(t, b, before)

		original := sample(t)
		copied = original.Copy()
		must(t, change(original))
		checkState(t, copied, before)
	}
}

func TestCopiesOfEmptyBooksAreBooks(t *testing.T) {
	b := New()
	copied := b.Copy()
	if copied == nil || copied.Set("x", 1) != api.OK || b.Has("x") || !copied.Has("x") {
		t.Error("a copy of a new book")
	}
	if New().Has("x") {
		t.Error("new books share registers")
	}
}

func TestCopiesOfFullBooksAreFull(t *testing.T) {
	copied := full(t).Copy()
	if copied.Set("new", 1) != api.ErrFull || copied.Remove("r3") != api.OK || copied.Set("new", 1) != api.OK {
		t.Error("a copy of a full book")
	}
}

// picker chooses the same numbers in each run.
type picker uint64

func (p *picker) below(n int) int {
	*p = *p*6364136223846793005 + 1442695040888963407
	return int(uint64(*p)>>33) % n
}

// mirror is the plain account of what a book should hold.
type mirror map[string]*[2]int

func (m mirror) at(name string) *[2]int {
	if m[name] == nil {
		m[name] = &[2]int{}
	}
	return m[name]
}

func TestLongHistories(t *testing.T) {
	var p picker = 5
	names := []string{"a", "b", "c", "d", "e"}
	b, m := New(), mirror{}
	for i := range 20000 {
		name, other := names[p.below(5)], names[p.below(5)]
		n := p.below(2001) - 1000
		switch p.below(8) {
		case 0, 1:
			must(t, b.Set(name, n))
			m.at(name)[0] = n
		case 2:
			must(t, b.Step(name, n))
			m.at(name)[1] = n
		case 3:
			must(t, b.Remove(name))
			delete(m, name)
		case 4:
			err := b.Rename(name, other)
			if (err == api.OK) != (m[name] != nil) {
				t.Fatal(i, "rename", err)
			}
			if r := m[name]; r != nil {
				delete(m, name)
				m[other] = r
			}
		default:
			want := 0
			if r := m[name]; r != nil {
				r[0] += r[1]
				want = r[0]
			}
			if got := move(b, name, true); got != is(want) {
				t.Fatal(i, "move", got, want)
			}
		}
		want := ""
		for _, name := range names {
			if r := m[name]; r != nil {
				n, step := strconv.Itoa(r[0]), strconv.Itoa(r[1])
				want += name + "=" + n + "," + step + ",0," + n + ";"
			}
		}
		if got := state(b); got != want {
			t.Fatalf("call %d: %q, want %q", i, got, want)
		}
	}
}
