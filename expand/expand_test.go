package expand

import (
	"slices"
	"strconv"
	"strings"
	"testing"

	"frisket/api"
)

// asker answers by a table and keeps what it was asked.
type asker struct {
	answers map[string]string // by questions; any other question is its own answer, in < and >
	asked   []string
}

func (a *asker) look(kind byte, name string, step int) string {
	q := question(kind, name, step)
	a.asked = append(a.asked, q)
	if answer, there := a.answers[q]; there {
		return answer
	}
	return "<" + q + ">"
}

func question(kind byte, name string, step int) string {
	switch step {
	case 0:
		return string(kind) + ":" + name
	case 1:
		return string(kind) + "+:" + name
	case -1:
		return string(kind) + "-:" + name
	}
	return string(kind) + strconv.Itoa(step) + ":" + name
}

// always answers the same.
func always(answer string) Look {
	return func(byte, string, int) string { return answer }
}

// counted answers the same, and counts how often.
func counted(answer string, n *int) Look {
	return func(byte, string, int) string { *n++; return answer }
}

func asked(q ...string) []string { return q }

// short shows a text that may be long.
func short(s string) string {
	if len(s) > 80 {
		return strconv.Quote(s[:40]) + ".. of " + strconv.Itoa(len(s)) + " bytes"
	}
	return strconv.Quote(s)
}

func checkExpand(t *testing.T, s string, copyMode bool, look Look, want string, wantErr api.Errno) {
	t.Helper()
	if got, err := Expand(s, copyMode, look); got != want || err != wantErr {
		t.Errorf("Expand of %s (copy %v): %s, error %d, want %s, error %d", short(s), copyMode, short(got), err, short(want), wantErr)
	}
}

// sample is a text, what it expands to, and what is asked on the way.
type sample struct {
	text, want string
	asked      []string
}

func checkSamples(t *testing.T, copyMode bool, answers map[string]string, samples []sample) {
	t.Helper()
	for _, s := range samples {
		a := asker{answers: answers}
		checkExpand(t, s.text, copyMode, a.look, s.want, api.OK)
		if !slices.Equal(a.asked, s.asked) {
			t.Errorf("Expand of %q (copy %v) asks %q, want %q", s.text, copyMode, a.asked, s.asked)
		}
	}
}

func TestExpandTakesEachFormOfAName(t *testing.T) {
	twenty := strings.Repeat("m", 20)
	for _, copyMode := range []bool{false, true} {
		checkSamples(t, copyMode, nil, []sample{
			{``, "", nil},
			{`abc`, "abc", nil},
			{`a\nxb`, "a<n:x>b", asked("n:x")},
			{`a\*xb`, "a<*:x>b", asked("*:x")},
			{`a\$1b`, "a<$:1>b", asked("$:1")},
			{`\n(xyz`, "<n:xy>z", asked("n:xy")},
			{`\*(xyz`, "<*:xy>z", asked("*:xy")},
			{`\$(12z`, "<$:12>z", asked("$:12")},
			{`\n[x]z`, "<n:x>z", asked("n:x")},
			{`\*[xyz]z`, "<*:xyz>z", asked("*:xyz")},
			{`\$[10]z`, "<$:10>z", asked("$:10")},
			{`\n[` + twenty + `]]`, "<n:" + twenty + ">]", asked("n:" + twenty)},
			{`\n[([+-]a`, "<n:([+->a", asked("n:([+-")},
			{`\n]]`, "<n:]>]", asked("n:]")},
			{`\n(]])`, "<n:]]>)", asked("n:]]")},
			{`\n!\n~`, "<n:!><n:~>", asked("n:!", "n:~")},
			{`\n(!~\n[!~]`, "<n:!~><n:!~>", asked("n:!~", "n:!~")},
			{`\nn\**\$$`, "<n:n><*:*><$:$>", asked("n:n", "*:*", "$:$")},
			{`\n\nx`, `<n:\>nx`, asked(`n:\`)},
			{`\*\"x`, `<*:\>"x`, asked(`*:\`)},
			{`\n(\nx`, `<n:\n>x`, asked(`n:\n`)},
			{`\n[a\*b]x`, `<n:a\*b>x`, asked(`n:a\*b`)},
			{`\n[\"]x`, `<n:\">x`, asked(`n:\"`)},
		})
	}
}

func TestExpandTakesASign(t *testing.T) {
	for _, copyMode := range []bool{false, true} {
		checkSamples(t, copyMode, nil, []sample{
			{`\n+x1`, "<n+:x>1", asked("n+:x")},
			{`\n-x1`, "<n-:x>1", asked("n-:x")},
			{`\n+(xy1`, "<n+:xy>1", asked("n+:xy")},
			{`\n-(xy1`, "<n-:xy>1", asked("n-:xy")},
			{`\n+[xyz]1`, "<n+:xyz>1", asked("n+:xyz")},
			{`\n-[+-]1`, "<n-:+->1", asked("n-:+-")},
			{`\n+\x`, `<n+:\>x`, asked(`n+:\`)},
		})
	}
}

// badNames are escapes without a well-formed name; each stays as it is.
func badNames() []string {
	bad := []string{`\n+`, `\n-`, `\n++`, `\n++x`, `\n+-x`, `\n--x`, `\n+(x`, `\n-[x`, `\n+ x`, `\n+`}
	long := strings.Repeat("m", 21)
	for _, kind := range []string{`\n`, `\*`, `\$`} {
		for _, behind := range []string{
			"", " ", " x", "\t", "\x20x", "\x7f", "\x80", "\xff", "\x00", "\x1f",
			"(", "(x", "( x", "(x ", "(\x7fx", "(x\x80", "((x", "(x(", "([x", "(x[", "(+x", "(x+", "(-x", "(x-",
			"[", "[x", "[xyz", "[]", "[]x]", "[ ]", "[a b]", "[a\tb]", "[a\x7f]", "[a\xc3\xa9]", "[" + long + "]", "[" + long,
		} {
			bad = append(bad, kind+behind)
		}
		if kind != `\n` {
			bad = append(bad, kind+"+x", kind+"-x", kind+"+(xy", kind+"-[x]")
		}
	}
	return bad
}

func TestExpandLeavesWhatIsMalformed(t *testing.T) {
	for _, copyMode := range []bool{false, true} {
		for _, bad := range badNames() {
			checkSamples(t, copyMode, nil, []sample{{bad, bad, nil}, {"a" + bad, "a" + bad, nil}})
		}
	}
	for _, s := range []string{`\`, `a\`, `\w`, `a\w`, `\w'`, `\w'a`, `\wa`, `\w\`, `\w\a\`, `\w'a"`, `\w"a'`} {
		checkSamples(t, false, nil, []sample{{s, s, nil}})
		checkSamples(t, true, nil, []sample{{s, s, nil}})
	}
}

func TestExpandReadsOnBehindTheBackslashOfWhatIsMalformed(t *testing.T) {
	long := strings.Repeat("m", 21)
	for _, copyMode := range []bool{false, true} {
		checkSamples(t, copyMode, nil, []sample{
			{`\n(`, `\n(`, nil},
			{`\n[\*x`, `\n[<*:x>`, asked("*:x")},
			{`\*[\nx`, `\*[<n:x>`, asked("n:x")},
			{`\n[a b\*x]`, `\n[a b<*:x>]`, asked("*:x")},
			{`\n[` + long + `]\nx`, `\n[` + long + `]<n:x>`, asked("n:x")},
			{`\n++\nx`, `\n++<n:x>`, asked("n:x")},
			{`\n(+\nx`, `\n(+<n:x>`, asked("n:x")},
			{`\*+\nx`, `\*+<n:x>`, asked("n:x")},
			{`\n \nx`, `\n <n:x>`, asked("n:x")},
			{`\n(\`, `\n(\`, nil},
			{`\w'\nx`, `\w'<n:x>`, asked("n:x")},
			{`\n[]\"x`, `\n[]`, nil},
		})
	}
	checkSamples(t, false, nil, []sample{
		{`\w\nx\`, `\w<n:x>\`, asked("n:x")},
		{`\wa\w'b'`, `\wa<w:b>`, asked("w:b")},
	})
}

func TestExpandReadsAnAnswerAgain(t *testing.T) {
	answers := map[string]string{
		"*:a": `1\nx2`, "$:a": `3\*b4`, "*:b": `\$c`, "$:c": "c",
		"n:q": `\nx`, "n:r": `\"`, "n:s": `\\`, "w:q": `\*a`, "n:t": "\n",
		"*:n": `\n`, "*:bs": `\`, "*:open": `\n(x`, "*:bracket": `\*[`, "*:r": `a\"b`, "*:w": `\w'`, "*:lf": "a\nb", "*:none": "", "$:none": "",
		"*:w2": `\w'a'`, "*:dots": `\\\.\e`,
	}
	samples := []sample{
		{`a\*ab`, "a1<n:x>2b", asked("*:a", "n:x")},
		{`a\$ab`, "a3c4b", asked("$:a", "*:b", "$:c")},
		{`\*ny`, "<n:y>", asked("*:n", "n:y")},
		{`\*[bs]ny`, "<n:y>", asked("*:bs", "n:y")},
		{`\*[bs]"y`, "", asked("*:bs")},
		{`\*[open]yz`, "<n:xy>z", asked("*:open", "n:xy")},
		{`\*[bracket]none]z`, "z", asked("*:bracket", "*:none")},
		{`\*[bs]`, `\`, asked("*:bs")},
		{`x\*ry\nx`, "xa", asked("*:r")},
		{`\*[lf]\n[t]`, "a\nb\n", asked("*:lf", "n:t")},
		{`a\*[none]b\$[none]c`, "abc", asked("*:none", "$:none")},
		{`\nq!`, `\nx!`, asked("n:q")},
		{`\nr!`, `\"!`, asked("n:r")},
		{`\ns\nx`, `\\<n:x>`, asked("n:s", "n:x")},
		{`\n[bs2]nx`, `<n:bs2>nx`, asked("n:bs2")},
	}
	checkSamples(t, false, answers, samples)
	checkSamples(t, true, answers, samples)
	checkSamples(t, false, answers, []sample{
		{`\*[w2]`, "<w:a>", asked("*:w2", "w:a")},
		{`\*wa'b`, "<w:a>b", asked("*:w", "w:a")},
		{`\w'q'!`, `\*a!`, asked("w:q")},
		{`\*[dots]`, `\\\.\e`, asked("*:dots")},
	})
	checkSamples(t, true, answers, []sample{
		{`\*[w2]`, `\w'a'`, asked("*:w2")},
		{`\*[dots]`, `\.\e`, asked("*:dots")},
	})
}

func TestExpandDoesNotReadAnAnswerOfNTogetherWithTheRest(t *testing.T) {
	answers := map[string]string{"n:b": `\`, "w:b": `\`, "n:q": `\n`}
	samples := []sample{
		{`\nbnx`, `\nx`, asked("n:b")},
		{`\nqx`, `\nx`, asked("n:q")},
		{`\nb\nb"a`, `\\"a`, asked("n:b", "n:b")},
	}
	checkSamples(t, false, answers, samples)
	checkSamples(t, true, answers, samples)
	checkSamples(t, false, answers, []sample{{`\w'b'nx`, `\nx`, asked("w:b")}})
}

func TestExpandAsksForWidths(t *testing.T) {
	answers := map[string]string{"n:x": "3", "*:q": `a'b`, "*:n": `\n`, "*:r": `a\"b`, "*:s": `\w'\*t'`, "*:t": "t", "n:q": `\*t`, "w:a": "[a]", "*:lf": "a\n\\w\nb\nc"}
	checkSamples(t, false, answers, []sample{
		{`x\w'abc'y`, "x<w:abc>y", asked("w:abc")},
		{`\w''`, "<w:>", asked("w:")},
		{`\w"a'b"`, "<w:a'b>", asked("w:a'b")},
		{`\w a b`, "[a]b", asked("w:a")},
		{`\wxayz`, `\wxayz`, nil},
		{`\wxaxz`, "[a]z", asked("w:a")},
		{"\\w\x00a\x00\\w\xffa\xff", "[a][a]", asked("w:a", "w:a")},
		{`\w(a(\w[a[`, "[a][a]", asked("w:a", "w:a")},
		{`\w'a\nxb'`, "<w:a3b>", asked("n:x", "w:a3b")},
		{`\w'\nx\*t\$1'`, "<w:3t<$:1>>", asked("n:x", "*:t", "$:1", "w:3t<$:1>")},
		{`\w'\nx'\w'\n-x'`, "<w:3><w:<n-:x>>", asked("n:x", "w:3", "n-:x", "w:<n-:x>")},
		{`\w'\*q'c'`, "<w:a'b>c'", asked("*:q", "w:a'b")},
		{`\w'\*nx'`, "<w:3>", asked("*:n", "n:x", "w:3")},
		{`\w'\*n'x`, `<w:\n>x`, asked("*:n", `w:\n`)},
		{`\w'\n'x`, `<w:\n>x`, asked(`w:\n`)},
		{`\w'\n('xy`, `<w:\n(>xy`, asked(`w:\n(`)},
		{`\w'a\'b`, `<w:a\>b`, asked(`w:a\`)},
		{`\w'\\\e\fB\.'`, `<w:\\\e\fB\.>`, asked(`w:\\\e\fB\.`)},
		{`\w'a\"b'c`, "[a]c", asked("w:a")},
		{`\w'\*r.'c`, "[a]c", asked("*:r", "w:a")},
		{`\w'\nq'`, `<w:\*t>`, asked("n:q", `w:\*t`)},
		{`\w'\w"a"b'`, "<w:[a]b>", asked("w:a", "w:[a]b")},
		{`\w'\w"\w!a!\nx"\nx'`, "<w:<w:[a]3>3>", asked("w:a", "n:x", "w:[a]3", "n:x", "w:<w:[a]3>3")},
		{`\w'\w'a'`, `<w:\w>a'`, asked(`w:\w`)},
		{`\w'\*s'`, "<w:<w:t>>", asked("*:s", "*:t", "w:t", "w:<w:t>")},
		{`\*[lf]`, "a\n<w:b>c", asked("*:lf", "w:b")},
	})
	checkSamples(t, true, answers, []sample{
		{`\w'abc'`, `\w'abc'`, nil},
		{`\w'\nx'`, `\w'3'`, asked("n:x")},
		{`\w"\nx`, `\w"3`, asked("n:x")},
		{`\w\nx\`, `\w3\`, asked("n:x")},
		{`\w'a\"b'c`, `\w'a`, nil},
		{`\w'\\'\w'\.'`, `\w'\'\w'.'`, nil},
	})
}

func TestExpandLeavesOutRemarks(t *testing.T) {
	for _, copyMode := range []bool{false, true} {
		checkSamples(t, copyMode, nil, []sample{
			{`\"`, "", nil},
			{`\"abc`, "", nil},
			{`abc\"`, "abc", nil},
			{`abc \"def\nx`, "abc ", nil},
			{`\nx\"\nx\"`, "<n:x>", asked("n:x")},
			{`a"b`, `a"b`, nil},
		})
	}
	checkSamples(t, false, nil, []sample{{`a\\"b`, `a\\"b`, nil}})
	checkSamples(t, true, nil, []sample{{`a\\"b`, `a\"b`, nil}})
}

func TestExpandNotInCopyModeLeavesOtherEscapes(t *testing.T) {
	for _, s := range []string{`\\`, `\\nx`, `\\\\*x`, `\e`, `\enx`, `\.`, `\.x`, `\fB`, `\(xy`, `\[x]`, `\ `, `\'`, `\&`, "\\\x80", "\\\x00", `\Nx`, `\Wa'b'`} {
		checkSamples(t, false, nil, []sample{{s, s, nil}, {s + `\nx`, s + "<n:x>", asked("n:x")}})
	}
	checkSamples(t, false, nil, []sample{
		{`\\\nx`, `\\<n:x>`, asked("n:x")},
		{`\\\\\"a`, `\\\\`, nil},
		{`\f\nx`, `\f<n:x>`, asked("n:x")},
	})
}

func TestExpandInCopyMode(t *testing.T) {
	checkSamples(t, true, nil, []sample{
		{`\\`, `\`, nil},
		{`\\nx`, `\nx`, nil},
		{`\\\\nx`, `\\nx`, nil},
		{`\\\nx`, `\<n:x>`, asked("n:x")},
		{`\\.`, `\.`, nil},
		{`\\\.`, `\.`, nil},
		{`\.`, `.`, nil},
		{`\.\.x`, `..x`, nil},
		{`\.nx`, `.nx`, nil},
		{`\e`, `\e`, nil},
		{`\enx`, `\enx`, nil},
		{`\fB\(xy`, `\fB\(xy`, nil},
		{"\\\x80\\ \\'", "\\\x80\\ \\'", nil},
		{`\f\nx`, `\f<n:x>`, asked("n:x")},
		{`a\`, `a\`, nil},
		{`\\\`, `\\`, nil},
	})
}

func TestExpandAsksEachEscapeOnceInTheirOrder(t *testing.T) {
	s := `\nx\nx\*y\n+x\w'\n-x\w"\$1"\*z'\$2\*y\n(ab`
	want := asked("n:x", "n:x", "*:y", "n+:x", "n-:x", "$:1", "w:1", "*:z", "w:<n-:x><w:1>Z", "$:2", "*:y", "n:ab")
	checkSamples(t, false, map[string]string{"*:y": "Y", "*:z": "Z", "$:1": "1", "$:2": "2"}, []sample{
		{s, "<n:x><n:x>Y<n+:x><w:<n-:x><w:1>Z>2Y<n:ab>", want},
	})
}

func TestExpandRefusesArguments(t *testing.T) {
	long := strings.Repeat("a", api.MaxLine+1)
	for _, copyMode := range []bool{false, true} {
		n := 0
		for _, s := range []string{"\n", "a\nb", "a\n", `\nx` + "\n", long, long + "\n", `\nx` + long[3:], strings.Repeat("\\", api.MaxLine+1)} {
			checkExpand(t, s, copyMode, counted("", &n), "", api.ErrArg)
		}
		if n != 0 {
			t.Error("a text that is refused was asked for")
		}
		checkExpand(t, long[1:], copyMode, counted("", &n), long[1:], api.OK)
		checkExpand(t, `\nx`+long[4:], copyMode, always(""), long[4:], api.OK)
		for _, s := range []string{"", "a", `\nx`, `\"`, "a\nb"} {
			checkExpand(t, s, copyMode, nil, "", api.ErrArg)
		}
	}
}

func TestExpandNamesErrArgBeforeErrLimit(t *testing.T) {
	many := strings.Repeat(`\nx`, 501)
	checkExpand(t, many, false, always(""), "", api.ErrLimit)
	checkExpand(t, many+"\n", false, always(""), "", api.ErrArg)
	checkExpand(t, many+strings.Repeat("a", 500), false, always(""), "", api.ErrArg)
	checkExpand(t, many, false, nil, "", api.ErrArg)
}

func TestExpandAsksFiveHundredTimes(t *testing.T) {
	for _, copyMode := range []bool{false, true} {
		for _, escape := range []string{`\nx`, `\*x`, `\$x`} {
			n := 0
			checkExpand(t, strings.Repeat(escape, 500), copyMode, counted("a", &n), strings.Repeat("a", 500), api.OK)
			if n != 500 {
				t.Error(escape, "of 500 was asked", n, "times")
			}
			n = 0
			checkExpand(t, strings.Repeat(escape, 501), copyMode, counted("a", &n), "", api.ErrLimit)
			if n != 500 {
				t.Error(escape, "of 501 was asked", n, "times")
			}
		}
		n := 0
		checkExpand(t, `\*x`, copyMode, counted(`\*x`, &n), "", api.ErrLimit)
		if n != 500 {
			t.Error("a string that answers with itself was asked", n, "times")
		}
	}
}

// answersItself answers a string with itself, until it was asked often.
func answersItself(often int, last string) Look {
	return func(byte, string, int) string {
		if often--; often > 0 {
			return `\*x`
		}
		return last
	}
}

func TestExpandAnswersOfAStringThatIsItself(t *testing.T) {
	checkExpand(t, `\*x!`, false, answersItself(500, "end"), "end!", api.OK)
	checkExpand(t, `\*x!`, true, answersItself(500, "end"), "end!", api.OK)
	checkExpand(t, `\*x!`, false, answersItself(501, "end"), "", api.ErrLimit)
	checkExpand(t, `\*x!`, false, answersItself(500, `\nx`), "", api.ErrLimit)
}

func TestExpandCountsWidthsAndTheirTextsTogether(t *testing.T) {
	widths := strings.Repeat(`\w''`, 500)
	n := 0
	checkExpand(t, widths, false, counted("a", &n), strings.Repeat("a", 500), api.OK)
	for _, s := range []string{
		strings.Repeat(`\nx`, 500) + `\w'a'`,
		`\w'` + strings.Repeat(`\nx`, 500) + `'`,
		`\w'` + strings.Repeat(`\nx`, 499) + `'\*x`,
		`\w'` + strings.Repeat(`\nx`, 498) + `\w"\*x"'`,
		`\w'` + strings.Repeat(`\nx`, 501) + `'`,
		widths[:4*400] + strings.Repeat(`\nx`, 101),
	} {
		n = 0
		checkExpand(t, s, false, counted("a", &n), "", api.ErrLimit)
		if n != 500 {
			t.Errorf("%s was asked %d times", short(s), n)
		}
	}
	checkExpand(t, strings.Repeat(`\nx`, 499)+`\w'a'`, false, always(""), "", api.OK)
	checkExpand(t, `\w'`+strings.Repeat(`\nx`, 499)+`'a`, false, always("b"), "ba", api.OK)
	checkExpand(t, `\w'`+strings.Repeat(`\nx`, 498)+`'\*x`, false, always("b"), "bb", api.OK)
	checkExpand(t, `\w'`+strings.Repeat(`\nx`, 498)+`\w"a"'`, false, always("b"), "b", api.OK)
}

func TestExpandForgetsEarlierCalls(t *testing.T) {
	for range 3 {
		checkExpand(t, strings.Repeat(`\nx`, 500), false, always(""), "", api.OK)
	}
}

func TestExpandBoundsBytes(t *testing.T) {
	most := strings.Repeat("a", 8000)
	for _, copyMode := range []bool{false, true} {
		for _, s := range []string{`\nx`, `\*x`, `\$x`} {
			checkExpand(t, s, copyMode, always(most), most, api.OK)
			checkExpand(t, s, copyMode, always(most+"a"), "", api.ErrLimit)
			checkExpand(t, "b"+s, copyMode, always(most[1:]), "b"+most[1:], api.OK)
			checkExpand(t, "b"+s, copyMode, always(most), "", api.ErrLimit)
			checkExpand(t, s+"b", copyMode, always(most[1:]), most[1:]+"b", api.OK)
			checkExpand(t, s+"b", copyMode, always(most), "", api.ErrLimit)
			checkExpand(t, "b"+s+"b", copyMode, always(most[2:]), "b"+most[2:]+"b", api.OK)
			checkExpand(t, "b"+s+"b", copyMode, always(most[1:]), "", api.ErrLimit)
			checkExpand(t, s+s, copyMode, always(most[4000:]), most, api.OK)
			checkExpand(t, s+s, copyMode, always(most[3999:]), "", api.ErrLimit)
		}
		// What is still to be read counts as it stands there.
		checkExpand(t, `\nx\\`, copyMode, always(most[1:]), "", api.ErrLimit)
		checkExpand(t, `\nx\"b`, copyMode, always(most[3:]), most[3:], api.OK)
		checkExpand(t, `\nx\"b`, copyMode, always(most[2:]), "", api.ErrLimit)
		checkExpand(t, `\*x`, copyMode, answersFirst(`\"`+most[2:]), "", api.OK)
		checkExpand(t, `\*x`, copyMode, answersFirst(`\"`+most[1:]), "", api.ErrLimit)
		// At the second answer the first one is a result, and the third escape is still to be read.
		checkExpand(t, `\nx\*y\nz`, copyMode, answersFirst(most[6:], "bbb", ""), most[6:]+"bbb", api.OK)
		checkExpand(t, `\nx\*y\nz`, copyMode, answersFirst(most[6:], "bbbb", ""), "", api.ErrLimit)
	}
}

// answersFirst answers one text behind the other, and then nothing.
func answersFirst(answers ...string) Look {
	return func(byte, string, int) string {
		if len(answers) == 0 {
			return ""
		}
		answer := answers[0]
		answers = answers[1:]
		return answer
	}
}

func TestExpandBoundsBytesOfWidths(t *testing.T) {
	most := strings.Repeat("a", 8000)
	checkExpand(t, `\w'b'`, false, always(most), most, api.OK)
	checkExpand(t, `\w'b'`, false, always(most+"a"), "", api.ErrLimit)
	checkExpand(t, `b\w'b'b`, false, always(most[2:]), "b"+most[2:]+"b", api.OK)
	checkExpand(t, `b\w'b'b`, false, always(most[1:]), "", api.ErrLimit)
	checkExpand(t, `\w'\nx'`, false, answersFirst(most, "b"), "b", api.OK)
	checkExpand(t, `\w'\nx'`, false, answersFirst(most+"a", "b"), "", api.ErrLimit)
	checkExpand(t, `\w'\*x'`, false, answersFirst(most, "b"), "b", api.OK)
	checkExpand(t, `\w'\*x'`, false, answersFirst(most+"a", "b"), "", api.ErrLimit)
}

func TestExpandBoundsBytesOfATextOfWByItself(t *testing.T) {
	most := strings.Repeat("a", 8000)
	checkExpand(t, `b\w'\nx'b`, false, answersFirst(most, "c"), "bcb", api.OK)
	checkExpand(t, `b\w'\*x'b`, false, answersFirst(most, "c"), "bcb", api.OK)
}

func TestExpandTakesALineFeedInAnAnswer(t *testing.T) {
	for _, copyMode := range []bool{false, true} {
		checkExpand(t, `a\nxb`, copyMode, always("\n"), "a\nb", api.OK)
		checkExpand(t, `a\*xb`, copyMode, always("\n\n"), "a\n\nb", api.OK)
		checkExpand(t, `a\*xyb`, copyMode, answersFirst("\\n", "\n"), "a\nb", api.OK)
	}
	checkExpand(t, `\w'a'`, false, always("\n"), "\n", api.OK)
	a := asker{answers: map[string]string{"*:x": "\n"}}
	checkExpand(t, `\w'\*x'`, false, a.look, "<w:\n>", api.OK)
}

func TestExpandOutlivesALookThatPanics(t *testing.T) {
	for _, thrown := range []any{"text", 7, api.ErrLimit, api.ErrForm, nil} {
		look := func(byte, string, int) string { panic(thrown) }
		for _, s := range []string{`a\nx`, `a\*x`, `\w'a'`, `\w'\$1'`} {
			checkExpand(t, s, false, look, "", api.ErrArg)
		}
	}
}

func TestExpandWithinALook(t *testing.T) {
	inner := func(_ byte, name string, _ int) string {
		text, err := Expand(strings.Repeat(`\nx`, 501), false, always(""))
		return name + text + strconv.Itoa(int(err))
	}
	checkExpand(t, `\na\nb`, false, inner, "a2b2", api.OK)
}
