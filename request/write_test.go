package request_test

import (
	"slices"
	"strings"
	"testing"

	"frisket/api"
	"frisket/request"
)

// P6.3: Write

func TestWrite(t *testing.T) {
	for _, name := range texts("x", "sp", ".", "'", `"`, `"a"`, `\"`, `a\`, "\x00", "é", strings.Repeat("x", 100)) {
		checkWrite(t, name, nil, "."+name)
		checkWrite(t, name, texts(), "."+name)
		checkWrite(t, name, texts("a"), "."+name+" a")
		checkWrite(t, name, texts("a", "b c", "d"), "."+name+` a "b c" d`)
	}
}

func TestWriteOfArguments(t *testing.T) {
	for arg, want := range map[string]string{
		"":          `""`,
		"a":         "a",
		" ":         `" "`,
		"\t":        "\"\t\"",
		"a b":       `"a b"`,
		"a\tb":      "\"a\tb\"",
		" a":        `" a"`,
		"a ":        `"a "`,
		`"`:         `""""`,
		`""`:        `""""""`,
		`"a`:        `"""a"`,
		`"a"`:       `"""a"""`,
		`"a b"`:     `"""a b"""`,
		`a"`:        `a"`,
		`a"b`:       `a"b`,
		`a""b`:      `a""b`,
		`a b"c`:     `"a b""c"`,
		`a "b" c`:   `"a ""b"" c"`,
		`'"`:        `'"`,
		`\a`:        `\a`,
		`\"`:        `\"`,
		`a\"b`:      `a\"b`,
		`\ a`:       `"\ a"`,
		`a\\`:       `a\\`,
		`\\\\`:      `\\\\`,
		`a b\\`:     `"a b\\"`,
		`a\\"b c`:   `"a\\""b c"`,
		`"\\`:       `"""\\"`,
		"a\rb\x00c": "a\rb\x00c",
		"\xffé":     "\xffé",
		"\u00a0":    "\u00a0",
		".":         ".",
	} {
		checkWrite(t, "x", texts(arg), ".x "+want)
		checkWrite(t, "x", texts(arg, "a", arg), ".x "+want+" a "+want)
		checkWords(t, want, arg)
	}
}

func TestWriteOfBackslashesAtTheEnd(t *testing.T) {
	for n := range 9 {
		row := strings.Repeat(`\`, n)
		if n%2 == 1 {
			checkUnwritten(t, "x", texts("a"+row), api.ErrForm)
			checkUnwritten(t, "x", texts("a b"+row, "c"), api.ErrForm)
			checkUnwritten(t, "x", texts(row), api.ErrForm)
			continue
		}
		checkWrite(t, "x", texts("a"+row), ".x a"+row)
		checkWrite(t, "x", texts("a b"+row, "c"), `.x "a b`+row+`" c`)
	}
}

func TestWriteLeavesItsArguments(t *testing.T) {
	args := texts("a b", "", `"`, "c", "d")
	checkWrite(t, "x", args[:4], `.x "a b" "" """" c`)
	if !slices.Equal(args, texts("a b", "", `"`, "c", "d")) {
		t.Error("changed:", args)
	}
}

// P6.4

func TestWordsOfWhatIsWritten(t *testing.T) {
	p := picker(5)
	written, refused := 0, 0
	for range 100000 {
		name := "x" + p.text(3, "a", `"`, `\`, ".")
		var args []string
		for range p.below(4) {
			args = append(args, p.text(6, "a", "b", `"`, `\\`, `\`, " ", "\t"))
		}
		line, err := request.Write(name, args)
		if err == api.ErrForm && slices.ContainsFunc(args, func(arg string) bool { return strings.Contains(arg, `\`) }) {
			refused++
			continue
		}
		if err != api.OK {
			t.Fatalf("Write of %q, %q: error %d", name, args, err)
		}
		written++
		checkSplit(t, line, request.Request{Name: name, Args: args, Rest: strings.TrimPrefix(line[1+len(name):], " ")})
		checkWords(t, line[1+len(name):], args...)
	}
	if written < 10000 || refused < 10000 {
		t.Error("written", written, "refused", refused)
	}
}

func TestWhatIsReadIsWrittenAgain(t *testing.T) {
	p := picker(6)
	for range 50000 {
		args := request.Words(p.text(12, "a", "b", `"`, `\n`, " ", "\t", `\\`))
		line, err := request.Write("x", args)
		if err != api.OK {
			t.Fatalf("Write of %q: error %d", args, err)
		}
		checkSplit(t, line, request.Request{Name: "x", Args: args, Rest: strings.TrimPrefix(line[2:], " ")})
	}
}
