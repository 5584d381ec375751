package font_test

import (
	"regexp"
	"slices"
	"sort"
	"strconv"
	"strings"
	"testing"

	"frisket/api"
	"frisket/font"
)

const smallText = "font X special\nspace 250\ng a 500\ng ab 333\ng b 7\ng c 0\nl a a c\nl a b ab\nl b a b\nk a b -80\nk a c 15\nk c a -1\n"

func TestWrite(t *testing.T) {
	checkWrite(t, small(), smallText)
	checkWrite(t, font.Font{Name: "X"}, "font X\nspace 0\n")
	checkWrite(t, font.Font{Name: "special", Special: true, Space: 3000}, "font special special\nspace 3000\n")
	checkWrite(t, bare("g"), "font X\nspace 0\ng g 0\n")
}

func TestParse(t *testing.T) {
	checkParse(t, smallText, small())
	checkParse(t, "font X\nspace 0\n", font.Font{Name: "X"})
	checkParse(t, "font special\nspace 0\n", font.Font{Name: "special"})
	checkParse(t, "font special special\nspace 0\n", font.Font{Name: "special", Special: true})
	checkParse(t, "font X\nspace 1\ng 10 3000\n", font.Font{Name: "X", Space: 1, Glyphs: []font.Glyph{{Name: "10", Width: 3000}}})
}

func TestParseMalformed(t *testing.T) {
	for _, s := range []string{
		"", "\n", " ", "font", "font\n", "font X", "font X\n", "space 0\n", "font X\nspace 0", "font X\nspace\n", "font X\nspace \n",
		"font \nspace 0\n", "font 1\nspace 0\n", "font X y\nspace 0\n", "font X Special\nspace 0\n", "font X special special\nspace 0\n",
		"font special X\nspace 0\n", "Font X\nspace 0\n", "font X\nSpace 0\n", "font X\nspaces 0\n", "font X\nspace 0 0\n",
		"font X\nspace 00\n", "font X\nspace 01\n", "font X\nspace +1\n", "font X\nspace -0\n", "font X\nspace -1\n", "font X\nspace 3001\n",
		"font X\nspace 1_0\n", "font X\nspace 0x1\n", "font X\nspace 1.\n", "font X\nspace 1e2\n", "font X\nspace a\n", "font X\nspace ١\n",
		"font X\nspace 18446744073709551616\n", "font X\nspace 18446744073709551617\n", "font X\nspace 9223372036854775808\n", "font X\nspace " + strings.Repeat("9", 500) + "\n",
		"font X\nspace 4294967296\n", "font X\nspace 0\n\n", "\nfont X\nspace 0\n", "font X\n\nspace 0\n", "font X\nspace 0\n ", "font X\nspace 0\nx",
		"font X\nspace 0\nx\n", "font X\r\nspace 0\r\n", "font X\tspecial\nspace 0\n", " font X\nspace 0\n", "font X \nspace 0\n", "font  X\nspace 0\n",
		"font X\nspace  0\n", "font X\nspace 0 \n", "font X\n space 0\n", "space 0\nfont X\n", "font X\nfont X\nspace 0\n", "font X\nspace 0\nspace 0\n",
		"font X\nspace 0\nfont X\n", "font X\nspace 0\nspace 1\n", "font X\nspace 0\x00\n", "font X\nspace 0\ng  1\n", "font X\nspace 0\ng a\n", "font X\nspace 0\ng a 1 1\n",
		"font X\nspace 0\ng a \n", "font X\nspace 0\ng a b\n", "font X\nspace 0\nG a 1\n", "font X\nspace 0\nh a 1\n",
	} {
		checkMalformed(t, s)
	}
}

// lineChanges are ways to spoil a line of a description.
func lineChanges() []func(line string) string {
	return []func(line string) string{
		func(line string) string { return "" },
		func(line string) string { return line + line },
		func(line string) string { return " " + line },
		func(line string) string { return strings.TrimSuffix(line, "\n") + " \n" },
		func(line string) string { return strings.TrimSuffix(line, "\n") + "\r\n" },
		func(line string) string { return strings.TrimSuffix(line, "\n") + " 1\n" },
		func(line string) string { return strings.Replace(line, " ", "  ", 1) },
		func(line string) string { return strings.Replace(line, " ", "", 1) },
		func(line string) string { return strings.Replace(line, " ", "\t", 1) },
		func(line string) string { return strings.TrimSuffix(line, "\n") },
		func(line string) string { return line + "\n" },
		func(line string) string { return line[1:] },
		func(line string) string { return strings.ToUpper(line) },
		func(line string) string { return atNumber(line, "0") },
		func(line string) string { return atNumber(line, "+") },
		func(line string) string { return atNumber(line, "-") + "x" },
		func(line string) string { return strings.TrimSuffix(line, "\n") + "000000000000000000000\n" },
		func(line string) string { return strings.TrimSuffix(line, "\n") + "x\n" },
		func(line string) string { return strings.TrimSuffix(line, "\n") + ".\n" },
		func(line string) string { return line[:strings.LastIndex(line, " ")] + "\n" },
	}
}

// atNumber puts something ahead of the word at a line's end.
func atNumber(line, what string) string {
	at := strings.LastIndex(line, " ") + 1
	return line[:at] + what + line[at:]
}

func TestParseSpoiledLines(t *testing.T) {
	lines := strings.SplitAfter(smallText, "\n")
	lines = lines[:len(lines)-1]
	for i := range lines {
		for _, change := range lineChanges() {
			spoiled := slices.Clone(lines)
			spoiled[i] = change(lines[i])
			checkAsModel(t, strings.Join(spoiled, ""))
		}
		for k := range i {
			swapped := slices.Clone(lines)
			swapped[i], swapped[k] = swapped[k], swapped[i]
			checkMalformed(t, strings.Join(swapped, ""))
		}
		doubled := slices.Insert(slices.Clone(lines), i, lines[i])
		checkMalformed(t, strings.Join(doubled, ""))
	}
	for _, tail := range []string{"\n", " ", "x", "x\n", "g d 1\n", "l a c a\n", "font X special\n", "space 250\n", "\x00"} {
		checkMalformed(t, smallText+tail)
	}
	checkMalformed(t, strings.TrimSuffix(smallText, "\n"))
	for cut := range len(smallText) {
		checkAsModel(t, smallText[:cut])
		checkAsModel(t, smallText[cut:])
	}
}

func TestParseNumbers(t *testing.T) {
	for _, c := range []struct {
		number string
		is     bool
	}{
		{"0", true}, {"7", true}, {"3000", true}, {"-0", false}, {"+0", false}, {"+7", false}, {"-7", false}, {"00", false}, {"07", false}, {"3001", false},
		{"9223372036854775807", false}, {"9223372036854775808", false}, {"18446744073709551623", false}, {"", false}, {"7x", false}, {" 7", false}, {"7 ", false},
	} {
		text := "font X\nspace 0\ng a " + c.number + "\n"
		if _, err := font.Parse(text); (err == api.OK) != c.is || err != api.OK && err != api.ErrForm {
			t.Errorf("Parse of a width %q: error %d", c.number, err)
		}
	}
	for _, c := range []struct {
		number string
		is     bool
	}{
		{"1", true}, {"-1", true}, {"500", true}, {"-500", true}, {"0", false}, {"-0", false}, {"+1", false}, {"--1", false}, {"-01", false}, {"- 1", false},
		{"501", false}, {"-501", false}, {"-18446744073709551617", false}, {"18446744073709551617", false}, {"-9223372036854775809", false}, {"-", false},
	} {
		text := "font X\nspace 0\ng a 1\nk a a " + c.number + "\n"
		if _, err := font.Parse(text); (err == api.OK) != c.is || err != api.OK && err != api.ErrForm {
			t.Errorf("Parse of a kern %q: error %d", c.number, err)
		}
	}
}

// modelParse reads a description by its form, a second time and otherwise than the package does.
func modelParse(s string) (f font.Font, is bool) {
	whole := regexp.MustCompile(`^font ([A-Za-z][A-Za-z0-9]{0,9})( special)?\nspace (0|[1-9][0-9]{0,3})\n((?:g [!-~]{1,10} (?:0|[1-9][0-9]{0,3})\n)*)((?:l [!-~]{1,10} [!-~]{1,10} [!-~]{1,10}\n)*)((?:k [!-~]{1,10} [!-~]{1,10} -?[1-9][0-9]{0,2}\n)*)$`)
	m := whole.FindStringSubmatch(s)
	if m == nil || strings.HasSuffix(s, "\n\n") {
		return font.Font{}, false
	}
	f = font.Font{Name: m[1], Special: m[2] != ""}
	f.Space, _ = strconv.Atoi(m[3])
	for _, line := range strings.Split(m[4], "\n") {
		if w := strings.Fields(line); len(w) > 0 {
			n, _ := strconv.Atoi(w[2])
			f.Glyphs = append(f.Glyphs, font.Glyph{Name: w[1], Width: n})
		}
	}
	for _, line := range strings.Split(m[5], "\n") {
		if w := strings.Fields(line); len(w) > 0 {
			f.Ligs = append(f.Ligs, font.Lig{A: w[1], B: w[2], Is: w[3]})
		}
	}
	for _, line := range strings.Split(m[6], "\n") {
		if w := strings.Fields(line); len(w) > 0 {
			n, _ := strconv.Atoi(w[3])
			f.Kerns = append(f.Kerns, font.Kern{A: w[1], B: w[2], By: n})
		}
	}
	return f, modelLists(f)
}

// modelLists looks at a font's lists as the chapter's Terms do.
func modelLists(f font.Font) bool {
	widths := map[string]bool{}
	var names, ligs, kerns []string
	good := f.Space <= 3000 && len(f.Glyphs) <= 400 && len(f.Ligs) <= 50 && len(f.Kerns) <= 500
	for _, g := range f.Glyphs {
		good = good && !widths[g.Name] && g.Width <= 3000
		widths[g.Name] = true
		names = append(names, g.Name)
	}
	met := map[string]bool{}
	for _, l := range f.Ligs {
		good = good && widths[l.A] && widths[l.B] && widths[l.Is] && !met[l.A+"\x00"+l.B]
		met[l.A+"\x00"+l.B] = true
		ligs = append(ligs, l.A+"\x00"+l.B)
	}
	met = map[string]bool{}
	for _, k := range f.Kerns {
		good = good && widths[k.A] && widths[k.B] && k.By >= -500 && k.By <= 500 && !met[k.A+"\x00"+k.B]
		met[k.A+"\x00"+k.B] = true
		kerns = append(kerns, k.A+"\x00"+k.B)
	}
	return good && sort.StringsAreSorted(names) && sort.StringsAreSorted(ligs) && sort.StringsAreSorted(kerns)
}

// checkAsModel holds Parse against the model.
func checkAsModel(t *testing.T, s string) bool {
	t.Helper()
	if want, is := modelParse(s); is {
		checkParse(t, s, want)
		checkWrite(t, want, s)
		return true
	}
	checkMalformed(t, s)
	return false
}

// TestParseRandomly spoils descriptions here and there.
func TestParseRandomly(t *testing.T) {
	p := picker(7)
	good, bad := 0, 0
	for range 6000 {
		text := described(p.font())
		for range p.below(3) {
			at := p.below(len(text))
			gone := p.below(2)
			text = text[:at] + p.from("", "", " ", "\n", "0", "1", "-", "a", "b", "k a a 1\n", "g x 1\n", "l a a b\n") + text[at+gone:]
			if text == "" {
				break
			}
		}
		if checkAsModel(t, text) {
			good++
		} else {
			bad++
		}
	}
	if good < 500 || bad < 500 {
		t.Errorf("%d good and %d bad descriptions tell too little", good, bad)
	}
}

// font makes a font that is often valid.
func (p *picker) font() font.Font {
	f := font.Font{Name: p.from("X", "special", "R2", "abcdefghij"), Special: p.below(2) == 0, Space: p.from1(0, 250, 3000)}
	for _, name := range []string{"!", "0", "a", "ab", "b", "zz", "~"} {
		if p.below(5) > 0 {
			f.Glyphs = append(f.Glyphs, font.Glyph{Name: name, Width: p.from1(0, 1, 999, 3000)})
		}
	}
	for _, a := range f.Glyphs {
		for _, b := range f.Glyphs {
			if p.below(20) == 0 {
				f.Ligs = append(f.Ligs, font.Lig{A: a.Name, B: b.Name, Is: p.from("a", "b", a.Name, b.Name)})
			}
			if p.below(15) == 0 {
				f.Kerns = append(f.Kerns, font.Kern{A: a.Name, B: b.Name, By: p.from1(-500, -1, 1, 77, 500)})
			}
		}
	}
	return f
}

func (p *picker) from1(n ...int) int {
	return n[p.below(len(n))]
}

// TestValidAsModel holds Valid against the model, by fonts whose lists are in any order.
func TestValidAsModel(t *testing.T) {
	p := picker(11)
	good, bad := 0, 0
	for range 6000 {
		f := p.font()
		if p.below(3) == 0 && len(f.Glyphs) > 1 {
			i, k := p.below(len(f.Glyphs)), p.below(len(f.Glyphs))
			f.Glyphs[i].Name, f.Glyphs[k].Name = f.Glyphs[k].Name, f.Glyphs[i].Name
		}
		if p.below(3) == 0 && len(f.Ligs) > 1 {
			i, k := p.below(len(f.Ligs)), p.below(len(f.Ligs))
			f.Ligs[i] = f.Ligs[k]
		}
		if p.below(3) == 0 && len(f.Kerns) > 1 {
			i, k := p.below(len(f.Kerns)), p.below(len(f.Kerns))
			f.Kerns[i], f.Kerns[k] = f.Kerns[k], f.Kerns[i]
		}
		want := modelLists(f)
		if got := font.Valid(f); got != want {
			t.Errorf("Valid of %s: %v", short(f), got)
		}
		if want {
			good++
		} else {
			bad++
		}
	}
	if good < 500 || bad < 500 {
		t.Errorf("%d good and %d bad fonts tell too little", good, bad)
	}
}
