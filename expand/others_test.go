package expand

import (
	"math/rand"
	"slices"
	"strings"
	"testing"

	"frisket/api"
)

func checkProtect(t *testing.T, s, want string, wantErr api.Errno) {
	t.Helper()
	if got, err := Protect(s); got != want || err != wantErr {
		t.Errorf("Protect of %s: %s, error %d, want %s, error %d", short(s), short(got), err, short(want), wantErr)
	}
}

func TestProtectWritesBackslashesTwice(t *testing.T) {
	for s, want := range map[string]string{
		``: ``, `abc`: `abc`, `\`: `\\`, `a\nx`: `a\\nx`, `\\`: `\\\\`, `\w'\*x'\"\.`: `\\w'\\*x'\\"\\.`, "a/\x00\xff": "a/\x00\xff",
	} {
		checkProtect(t, s, want, api.OK)
	}
}

func TestProtectRefusesTexts(t *testing.T) {
	most := strings.Repeat("a", api.MaxLine)
	slashes := strings.Repeat(`\`, api.MaxLine)
	checkProtect(t, most, most, api.OK)
	checkProtect(t, slashes[1000:], slashes, api.OK)
	checkProtect(t, most[2:]+`\`, most[2:]+`\\`, api.OK)
	checkProtect(t, most[1:]+`\`, "", api.ErrLimit)
	checkProtect(t, slashes[999:], "", api.ErrLimit)
	checkProtect(t, slashes, "", api.ErrLimit)
	checkProtect(t, most+"a", "", api.ErrArg)
	checkProtect(t, slashes+`\`, "", api.ErrArg)
	checkProtect(t, slashes[1:]+"\n", "", api.ErrArg)
	checkProtect(t, "\n", "", api.ErrArg)
	checkProtect(t, `a\`+"\n", "", api.ErrArg)
}

func TestPlainTellsWhatExpandChanges(t *testing.T) {
	for _, s := range []string{``, `abc`, `a\fB\\n`, `\e\.\(xy`, `\\nx`, `\\\\"`, `\`, `a\`, `\\\`, `"'`, `\w`, `\w'a`, `\w\a\`, `\wa`} {
		if !Plain(s) {
			t.Errorf("%q is not plain", s)
		}
	}
	for _, s := range badNames() {
		if !Plain(s) || !Plain(`a\e`+s) {
			t.Errorf("%q is not plain, though it is malformed", s)
		}
	}
	for _, s := range []string{`\nx`, `\*x`, `\$x`, `\n(xy`, `\*[x]`, `\n+x`, `\n\`, `\w''`, `\w'a'`, `\w a `, `\"`, `a\"`, `a\"b`, `\n[\*x`, `\*+\nx`, `\w'\nx`, `\w\nx\`, `\\\nx`, `\f\"`} {
		if Plain(s) || Plain("abc"+s) || Plain(`\e\\`+s) {
			t.Errorf("%q is plain", s)
		}
	}
}

func checkNames(t *testing.T, s string, want ...string) {
	t.Helper()
	if got := Names(s); !slices.Equal(got, want) {
		t.Errorf("Names of %s: %q, want %q", short(s), got, want)
	}
}

func TestNamesListsEscapes(t *testing.T) {
	checkNames(t, ``)
	checkNames(t, `abc\fB\e\\`)
	checkNames(t, `\nx`, "n:x")
	checkNames(t, `b\nxa\n(ab\n[abc]\*y\*(cd\*[d]\$1\$(10\$[100]`, "n:x", "n:ab", "n:abc", "*:y", "*:cd", "*:d", "$:1", "$:10", "$:100")
	checkNames(t, `\nx\nx\*x\nx`, "n:x", "n:x", "*:x", "n:x")
	checkNames(t, `\n+x\n-(xy\n+[x-]`, "n:x", "n:xy", "n:x-")
	checkNames(t, `\\nx\e\*x`, "*:x")
	checkNames(t, `\\\nx\.\*y\f\nz`, "n:x", "*:y", "n:z")
	checkNames(t, `\n\nx\*(\$1`, `n:\`, `*:\$`)
	checkNames(t, `\n[\*x]\*y`, `n:\*x`, "*:y")
	checkNames(t, `\n[\*x\*+\ny`, "*:x", "n:y")
	checkNames(t, `a`+"\n"+`\nx`, "n:x")
	checkNames(t, strings.Repeat("a", 3000)+`\nx`, "n:x")
	for _, s := range badNames() {
		checkNames(t, s)
	}
}

func TestNamesListsEscapesInTheTextsOfW(t *testing.T) {
	checkNames(t, `\w'\nx'`, "n:x")
	checkNames(t, `\w"\nx'\*y"\nz`, "n:x", "*:y", "n:z")
	checkNames(t, `\w'a\w"\$1"\nx'`, "$:1", "n:x")
	checkNames(t, `\w'\nx\*y`, "n:x", "*:y")
	checkNames(t, `\w\nx\`, "n:x")
	checkNames(t, `\w'\n'x'\ny`, "n:y")
	checkNames(t, `\w'\n('xy\ny`, "n:y")
	checkNames(t, `\wn\nxn`)
	checkNames(t, `\wnan\nx`, "n:x")
}

func TestNamesEndsAtARemark(t *testing.T) {
	checkNames(t, `\"\nx`)
	checkNames(t, `\nx\"\ny`, "n:x")
	checkNames(t, `\nx\\"\ny`, "n:x", "n:y")
	checkNames(t, `\nx\w'\*y\"\ny'\nz`, "n:x", "*:y")
	checkNames(t, `\n(\"\ny`, `n:\"`, "n:y")
}

func checkJoin(t *testing.T, lines []string, want ...string) {
	t.Helper()
	before := slices.Clone(lines)
	if got := Join(lines); !slices.Equal(got, want) {
		t.Errorf("Join of %q: %q, want %q", before, got, want)
	}
	if !slices.Equal(lines, before) {
		t.Errorf("Join of %q left %q", before, lines)
	}
}

func TestJoinPutsLinesBehindOthers(t *testing.T) {
	checkJoin(t, nil)
	checkJoin(t, []string{})
	checkJoin(t, []string{"a", "", "b"}, "a", "", "b")
	checkJoin(t, []string{`a\`, "b", "c"}, "ab", "c")
	checkJoin(t, []string{`a\\`, "b"}, `a\\`, "b")
	checkJoin(t, []string{`a\\\`, "b"}, `a\\b`)
	checkJoin(t, []string{`a\\\\`, "b"}, `a\\\\`, "b")
	checkJoin(t, []string{`a\`, `b\`, `c`, `d\`, `e`}, "abc", "de")
	checkJoin(t, []string{`\`, `\`, `c`}, "c")
	checkJoin(t, []string{`a\`, "", "b"}, "a", "b")
	checkJoin(t, []string{`a\`, `\\`, "b"}, `a\\`, "b")
	checkJoin(t, []string{`a\\\`, `\`, "b"}, `a\\b`)
	checkJoin(t, []string{`a\\\`, `\\`, "b"}, `a\\\\`, "b")
	checkJoin(t, []string{`\a`, `a\b`, `a\ `}, `\a`, `a\b`, `a\ `)
	checkJoin(t, []string{"a\n\\", "\xffb"}, "a\n\xffb")
}

func TestJoinLeavesTheLastLine(t *testing.T) {
	checkJoin(t, []string{`\`}, `\`)
	checkJoin(t, []string{`a\`}, `a\`)
	checkJoin(t, []string{`a\\\`}, `a\\\`)
	checkJoin(t, []string{"a", `b\`}, "a", `b\`)
	checkJoin(t, []string{`a\`, `b\`}, `ab\`)
	checkJoin(t, []string{`a\`, ""}, "a")
}

func TestJoinOfManyLines(t *testing.T) {
	joined := Join(slices.Repeat([]string{`a\`}, api.MaxLines))
	if len(joined) != 1 || joined[0] != strings.Repeat("a", api.MaxLines)+`\` {
		t.Error("lines that all go on make", len(joined), "lines")
	}
}

// eachText calls with all the texts of up to so many of the pieces.
func eachText(pieces []string, upTo int, call func(s string)) {
	call("")
	if upTo == 0 {
		return
	}
	for _, p := range pieces {
		eachText(pieces, upTo-1, func(s string) { call(s + p) })
	}
}

// marks are pieces of texts with all that escapes are made of.
func marks() []string {
	return []string{`\`, "n", "*", "$", "w", "'", `"`, "(", "[", "]", "+", ".", "e", "x", " "}
}

func randomText(r *rand.Rand, upTo int) string {
	pieces := append(marks(), `\n`, `\*`, `\$1`, `\w'`, `\w"`, `\\`)
	var b strings.Builder
	for range r.Intn(upTo) {
		b.WriteString(pieces[r.Intn(len(pieces))])
	}
	return b.String()
}

func TestExpandInCopyModeOfProtectIsTheText(t *testing.T) {
	n := 0
	check := func(s string) {
		protected, err := Protect(s)
		got, err2 := Expand(protected, true, counted("", &n))
		if got != s || err != api.OK || err2 != api.OK {
			t.Errorf("%q is protected as %q, which expands to %q", s, protected, got)
		}
	}
	eachText(marks(), 4, check)
	r := rand.New(rand.NewSource(1))
	for range 20000 {
		check(randomText(r, 40))
	}
	check(strings.Repeat(`\`, 1000))
	if n != 0 {
		t.Error("a protected text was asked for")
	}
}

func TestPlainTextsAreLeftAsTheyAre(t *testing.T) {
	check := func(s string) {
		n := 0
		got, err := Expand(s, false, counted("?", &n))
		if err != api.OK {
			t.Fatalf("Expand of %q: error %d", s, err)
		}
		if same := got == s && n == 0; same != Plain(s) {
			t.Errorf("%q expands to %q with %d questions, and Plain is %v", s, got, n, Plain(s))
		}
	}
	eachText(marks(), 4, check)
	r := rand.New(rand.NewSource(2))
	for range 50000 {
		check(randomText(r, 12))
	}
}

func TestNamesAreWhatExpandAsksFor(t *testing.T) {
	check := func(s string) {
		if strings.Contains(s, `\"`) {
			return
		}
		var want []string
		look := func(kind byte, name string, _ int) string {
			if kind != 'w' {
				want = append(want, string(kind)+":"+name)
			}
			return ""
		}
		if _, err := Expand(s, false, look); err != api.OK {
			t.Fatalf("Expand of %q: error %d", s, err)
		}
		checkNames(t, s, want...)
	}
	eachText(marks(), 3, check)
	r := rand.New(rand.NewSource(3))
	for range 50000 {
		check(randomText(r, 16))
	}
}

func TestTextsBehindAPlainOneAreExpandedAsByThemselves(t *testing.T) {
	look := func(kind byte, name string, step int) string { return "<" + question(kind, name, step) + ">" }
	check := func(ahead, behind string) {
		if !Plain(ahead) || strings.HasSuffix(ahead, `\`) {
			return
		}
		one, err1 := Expand(ahead, false, look)
		other, err2 := Expand(behind, false, look)
		both, err := Expand(ahead+behind, false, look)
		if both != one+other || err1 != api.OK || err2 != api.OK || err != api.OK {
			t.Errorf("%q and %q expand to %q and %q, together to %q", ahead, behind, one, other, both)
		}
	}
	// An escape that is malformed because its text ends may go on in the next one, so those ahead have none.
	whole := []string{"a", "n", "(", "'", `"`, " ", `\\`, `\e`, `\.`, `\f`, `\(`, `\n `, `\*+`, `\$[]`}
	r := rand.New(rand.NewSource(4))
	eachText(whole, 3, func(ahead string) {
		check(ahead, "nx")
		check(ahead, "")
		check(ahead, `\`)
		for range 10 {
			check(ahead, randomText(r, 12))
		}
	})
}
