package request_test

import (
	"slices"
	"strings"
	"testing"

	"frisket/api"
	"frisket/request"
)

// P6.2: Split and Words

func TestSplitTakesAControlLineApart(t *testing.T) {
	for line, want := range map[string]request.Request{
		`.xx a "b c" d"e`: {Name: "xx", Args: texts("a", "b c", `d"e`), Rest: `a "b c" d"e`},
		".x":              {Name: "x"},
		".sp 2":           {Name: "sp", Args: texts("2"), Rest: "2"},
		".\\\" a remark":  {Name: `\"`, Args: texts("a", "remark"), Rest: "a remark"},
		`.\*x a`:          {Name: `\*x`, Args: texts("a"), Rest: "a"},
		`."x y" z`:        {Name: `"x`, Args: texts(`y"`, "z"), Rest: `y" z`},
		"..":              {Name: "."},
		".. x":            {Name: ".", Args: texts("x"), Rest: "x"},
		".'x":             {Name: "'x"},
		".a.b'c":          {Name: "a.b'c"},
		".\x00\xff\r a":   {Name: "\x00\xff\r", Args: texts("a"), Rest: "a"},
		".é ü":            {Name: "é", Args: texts("ü"), Rest: "ü"},
		".\u00a0x":        {Name: "\u00a0x"},
	} {
		checkSplit(t, line, want)
		want.Quiet = true
		checkSplit(t, "'"+line[1:], want)
	}
}

func TestSplitOfWhatIsNoControlLine(t *testing.T) {
	for _, line := range texts("", " ", "text", " .x", "\t.x", "\\.x", "a.x", "\"", ",x", "\x00.x") {
		checkNoRequest(t, line, '.', '\'', api.OK)
	}
	checkNoRequest(t, ".x", '!', '\'', api.OK)
	checkNoRequest(t, "'x", '.', '!', api.OK)
	checkNoRequest(t, ".x", '\'', '!', api.OK)
}

func TestSplitTakesTheControlBytesThatAreGiven(t *testing.T) {
	for _, k := range []struct {
		line           string
		control, quiet byte
		want           bool
	}{
		{".x", '.', '\'', false}, {"'x", '.', '\'', true}, {".x", '\'', '.', true}, {"'x", '\'', '.', false},
		{"!x", '!', '.', false}, {".x", '!', '.', true}, {"\xffx", 0xff, 0, false}, {"\x00x", 0xff, 0, true},
	} {
		r, is, err := request.Split(k.line, k.control, k.quiet)
		if want := (request.Request{Name: "x", Quiet: k.want}); !is || err != api.OK || !sameRequest(r, want) {
			t.Errorf("Split of %q with %q, %q: %s, %v, %d", k.line, k.control, k.quiet, short(r), is, err)
		}
	}
}

func TestBlanksBehindTheControlByte(t *testing.T) {
	for _, blanks := range texts("", " ", "\t", "   ", "\t\t", " \t ", "\t \t") {
		checkSplit(t, "."+blanks+"x a", request.Request{Name: "x", Args: texts("a"), Rest: "a"})
		checkSplit(t, "'"+blanks+"x", request.Request{Name: "x", Quiet: true})
		checkSplit(t, "."+blanks, request.Request{})
		checkSplit(t, "'"+blanks, request.Request{Quiet: true})
	}
	for _, other := range texts("\r", "\v", "\f", "\x00", "\u00a0", "\x1f", "\x21") {
		checkSplit(t, "."+other+" a", request.Request{Name: other, Args: texts("a"), Rest: "a"})
	}
}

func TestRestIsBehindTheNameAndOneBlank(t *testing.T) {
	for behind, rest := range map[string]string{
		"":         "",
		" ":        "",
		"\t":       "",
		"  ":       " ",
		" \t ":     "\t ",
		" a":       "a",
		"\ta":      "a",
		"  a":      " a",
		"\t\ta":    "\ta",
		"\t a":     " a",
		" a b ":    "a b ",
		"   a  b ": "  a  b ",
		` "a  b`:   `"a  b`,
		` a\ `:     `a\ `,
		` \ a`:     `\ a`,
	} {
		checkSplit(t, ".xy"+behind, request.Request{Name: "xy", Args: request.Words(rest), Rest: rest})
	}
}

func TestANameEndsAtABlankWhateverIsAhead(t *testing.T) {
	checkSplit(t, `.x\ a`, request.Request{Name: `x\`, Args: texts("a"), Rest: "a"})
	checkSplit(t, ".x\\\ta", request.Request{Name: `x\`, Args: texts("a"), Rest: "a"})
	checkSplit(t, `.x\`, request.Request{Name: `x\`})
	checkSplit(t, `.x"a b`, request.Request{Name: `x"a`, Args: texts("b"), Rest: "b"})
}

func TestWordsArePartedByBlanks(t *testing.T) {
	checkWords(t, "")
	checkWords(t, " ")
	checkWords(t, "\t \t")
	checkWords(t, "a", "a")
	checkWords(t, "  a\t\tb \tc  ", "a", "b", "c")
	checkWords(t, "a\rb\vc\fd\x00e\u00a0f\ng h", "a\rb\vc\fd\x00e\u00a0f\ng", "h")
	checkWords(t, "\xff \x80 é", "\xff", "\x80", "é")
	checkWords(t, ".x 'y", ".x", "'y")
}

func TestWordsInQuotes(t *testing.T) {
	checkWords(t, `"a"`, "a")
	checkWords(t, `""`, "")
	checkWords(t, `"" ""`, "", "")
	checkWords(t, `"a b" c`, "a b", "c")
	checkWords(t, "\" a\tb \"\tc", " a\tb ", "c")
	checkWords(t, `"a""b"`, `a"b`)
	checkWords(t, `"a"" b" c`, `a" b`, "c")
	checkWords(t, `""""`, `"`)
	checkWords(t, `"""" a`, `"`, "a")
	checkWords(t, `""""""`, `""`)
	checkWords(t, `"""a"`, `"a`)
	checkWords(t, `"a"""`, `a"`)
	checkWords(t, "\"a\nb\"", "a\nb")
}

func TestWordsInQuotesThatDoNotEnd(t *testing.T) {
	checkWords(t, `"`, "")
	checkWords(t, `a "`, "a", "")
	checkWords(t, `"a`, "a")
	checkWords(t, `"a b  `, "a b  ")
	checkWords(t, `"""`, `"`)
	checkWords(t, `"a""`, `a"`)
	checkWords(t, `"a"" b`, `a" b`)
	checkWords(t, `x "a b`, "x", "a b")
}

func TestWordsGoOnBehindTheirQuote(t *testing.T) {
	checkWords(t, `"a"b`, "ab")
	checkWords(t, `"a b"c d`, "a bc", "d")
	checkWords(t, `"a"b"c d`, `ab"c`, "d")
	checkWords(t, `"a"b"" c`, `ab""`, "c")
	checkWords(t, `""a b`, "a", "b")
	checkWords(t, `""a"b c"`, `a"b`, `c"`)
	checkWords(t, `"a b"\ c d`, `a b\ c`, "d")
	checkWords(t, `"a"\"b" c`, `a\"b"`, "c")
}

func TestAQuoteWithinAWordIsAByte(t *testing.T) {
	checkWords(t, `a"b`, `a"b`)
	checkWords(t, `a"b c"d`, `a"b`, `c"d`)
	checkWords(t, `a""b c`, `a""b`, "c")
	checkWords(t, `a" "b`, `a"`, "b")
	checkWords(t, `'"' x`, `'"'`, "x")
}

func TestABackslashHoldsTheByteBehindIt(t *testing.T) {
	checkWords(t, `a\ b c`, `a\ b`, "c")
	checkWords(t, "a\\\tb c", "a\\\tb", "c")
	checkWords(t, `\ a`, `\ a`)
	checkWords(t, `\  a`, `\ `, "a")
	checkWords(t, `a\\ b`, `a\\`, "b")
	checkWords(t, `a\\\ b`, `a\\\ b`)
	checkWords(t, `\"a b"`, `\"a`, `b"`)
	checkWords(t, `"a\"b c" d`, `a\"b c`, "d")
	checkWords(t, `"a\\"b c`, `a\\b`, "c")
	checkWords(t, `"a\\\" b" c`, `a\\\" b`, "c")
	checkWords(t, `"\"" a`, `\"`, "a")
	checkWords(t, `"\""" a`, `\"" a`)
	checkWords(t, `"a\ b" c`, `a\ b`, "c")
	checkWords(t, `a\`, `a\`)
	checkWords(t, `\`, `\`)
	checkWords(t, `"\`, `\`)
	checkWords(t, `"a b\`, `a b\`)
	checkWords(t, `"a"\`, `a\`)
	checkWords(t, `a\ `, `a\ `)
	checkWords(t, `"a\"`, `a\"`)
}

// words reads arguments byte by byte.
func words(s string) []string {
	const (
		between = iota
		bare
		quoted
		quoteSeen // within quotes, behind a quote
	)
	var all []string
	state := between
	held := false
	put := func(c byte) { all[len(all)-1] += string([]byte{c}) }
	for i := range len(s) {
		c := s[i]
		if held {
			put(c)
			held = false
			continue
		}
		if state == quoteSeen {
			if c == '"' {
				put(c)
				state = quoted
				continue
			}
			state = bare
		}
		blank := c == ' ' || c == '\t'
		switch {
		case state == between && blank:
		case state == between:
			all = append(all, "")
			state = bare
			if c == '"' {
				state = quoted
				continue
			}
			put(c)
			held = c == '\\'
		case state == bare && blank:
			state = between
		case state == quoted && c == '"':
			state = quoteSeen
		default:
			put(c)
			held = c == '\\'
		}
	}
	return all
}

func TestManyWords(t *testing.T) {
	p := picker(1)
	for range 100000 {
		s := p.text(14, "a", "b", `"`, `"`, `\`, " ", " ", "\t")
		checkWords(t, s, words(s)...)
		if t.Failed() {
			return
		}
	}
}

func TestManyControlLines(t *testing.T) {
	p := picker(2)
	for range 30000 {
		line := p.text(12, ".", "'", "a", `"`, `\`, " ", "\t")
		if line == "" || line[0] != '.' && line[0] != '\'' {
			checkNoRequest(t, line, '.', '\'', api.OK)
			continue
		}
		behind := strings.TrimLeft(line[1:], " \t")
		name, rest := behind, ""
		if at := slices.IndexFunc([]byte(behind), func(c byte) bool { return c == ' ' || c == '\t' }); at >= 0 {
			name, rest = behind[:at], behind[at+1:]
		}
		checkSplit(t, line, request.Request{Name: name, Args: words(rest), Rest: rest, Quiet: line[0] == '\''})
	}
}

func TestLongTextsOfWords(t *testing.T) {
	checkWords(t, strings.Repeat("ab ", 100000), slices.Repeat(texts("ab"), 100000)...)
	checkWords(t, `"`+strings.Repeat(`""`, 100000), strings.Repeat(`"`, 100000))
	checkWords(t, strings.Repeat(`\ `, 100000), strings.Repeat(`\ `, 100000))
}
