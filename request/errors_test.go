package request_test

import (
	"strings"
	"testing"

	"frisket/api"
	"frisket/request"
)

// P6.1

func TestSplitRefusesWhatIsNoLine(t *testing.T) {
	for _, line := range texts("\n", ".x\n", "\n.x", ".x \"a\nb\"", "text\n", "a\nb", ".x a\\\nb") {
		checkNoRequest(t, line, '.', '\'', api.ErrArg)
	}
	for _, front := range texts(".x ", "text ", "'", ".", "") {
		full := front + strings.Repeat("é", (api.MaxLine-len(front))/2)
		full += strings.Repeat("x", api.MaxLine-len(full))
		if r, is, err := request.Split(full, '.', '\''); err != api.OK || is != (front != "" && front != "text ") {
			t.Error("a line of MaxLine bytes:", front, short(r), is, err)
		}
		checkNoRequest(t, full+"x", '.', '\'', api.ErrArg)
		checkNoRequest(t, full+" ", '.', '\'', api.ErrArg)
	}
	checkNoRequest(t, strings.Repeat("x", 100000), '.', '\'', api.ErrArg)
}

func TestSplitRefusesControlBytes(t *testing.T) {
	const refused = "abcdefghijklmnopqrstuvwxyzABCDEFGHIJKLMNOPQRSTUVWXYZ0123456789 \t\\"
	for _, c := range allBytes() {
		if strings.IndexByte(refused, c) >= 0 {
			for _, line := range texts(".x", string([]byte{c, 'x'}), "", "text") {
				checkNoRequest(t, line, c, '\'', api.ErrArg)
				checkNoRequest(t, line, '.', c, api.ErrArg)
			}
			continue
		}
		checkNoRequest(t, "", c, c, api.ErrArg)
		checkNoRequest(t, ".x", c, c, api.ErrArg)
		if c == '.' || c == '\'' || c == '\n' {
			continue
		}
		for _, line := range texts(string([]byte{c})+"x y", string([]byte{c, ' ', 'x', ' ', 'y'})) {
			if r, is, err := request.Split(line, c, '\''); !is || err != api.OK || r.Quiet || r.Name != "x" || r.Rest != "y" {
				t.Error("control byte", c, short(r), is, err)
			}
			if r, is, err := request.Split(line, '.', c); !is || err != api.OK || !r.Quiet || r.Name != "x" || r.Rest != "y" {
				t.Error("quiet byte", c, short(r), is, err)
			}
			checkNoRequest(t, line, '.', '\'', api.OK)
		}
	}
}

func TestConditionRefusesWhatIsNoLine(t *testing.T) {
	for _, s := range texts("\n", "o\n", "\no", "o a\nb", "'\n'\n'", "'a\nb'a'", "dx\ny", "!\n", "1\n") {
		checkBadCondition(t, s, api.ErrArg)
	}
	full := strings.Repeat("1", api.MaxLine)
	checkCondition(t, full, request.Cond{Kind: 'x', Name: full})
	checkCondition(t, "o"+full[1:], request.Cond{Kind: 'o', Rest: full[1:]})
	for _, s := range texts(full+"1", full+" ", " "+full, "o"+full, "!"+full) {
		checkBadCondition(t, s, api.ErrArg)
	}
}

func TestConditionsErrArgIsAheadOfErrForm(t *testing.T) {
	blanks := strings.Repeat(" ", api.MaxLine)
	for _, s := range texts("", "!", "'a'b", "d", "r ", "! o") {
		checkBadCondition(t, s, api.ErrForm)
		checkBadCondition(t, s+"\n", api.ErrArg)
		checkBadCondition(t, "\n"+s, api.ErrArg)
	}
	for _, s := range texts("!", "'a'b", "d", "r ", "! o") {
		checkBadCondition(t, blanks[len(s):]+s, api.ErrForm)
		checkBadCondition(t, blanks+s, api.ErrArg)
		checkBadCondition(t, s+blanks, api.ErrArg)
	}
}

func TestWriteRefusesWhatIsTooLong(t *testing.T) {
	x := strings.Repeat("x", api.MaxLine)
	quotes := strings.Repeat(`"`, api.MaxLine/2)
	for _, k := range []struct {
		name string
		args []string
		over int // how many bytes more are to be written than MaxLine
	}{
		{x[1:], nil, 0},
		{x, nil, 1},
		{x + x, nil, api.MaxLine + 1},
		{"x", texts(x[3:]), 0},
		{"x", texts(x[2:]), 1},
		{"x", texts(x[5:], "y"), 0},
		{"x", texts(x[5:], "yz"), 1},
		{x[4:], texts(""), 0},
		{x[3:], texts(""), 1},
		{"x", texts(x[6:] + " "), 0},
		{"x", texts(x[5:] + " "), 1},
		{"x", texts("\t" + x[6:]), 0},
		{"x", texts("\t" + x[5:]), 1},
		{"x", texts(quotes[4:] + "xyz"), 0},
		{"x", texts(quotes[4:] + "wxyz"), 1},
		{"x", texts("xy" + quotes), 5 - api.MaxLine/2},
		{"x", make([]string, 666), 0},
		{"xx", make([]string, 666), 1},
	} {
		got, err := request.Write(k.name, k.args)
		if k.over > 0 && (got != "" || err != api.ErrArg) || k.over <= 0 && (err != api.OK || len(got) != api.MaxLine+k.over) {
			t.Errorf("Write of %s, %s (%d over): %d bytes, error %d", short(k.name), short(k.args), k.over, len(got), err)
		}
	}
}

func TestWriteRefusesNames(t *testing.T) {
	for _, name := range texts("", " ", "\t", "a b", "a\tb", " a", "a ", "a\t", `a\ b`, "\n", "a\nb", "a\n") {
		for _, args := range [][]string{nil, {}, {"x"}, {"x", ""}, {`x\`}} {
			checkUnwritten(t, name, args, api.ErrForm)
		}
	}
}

func TestWriteRefusesArguments(t *testing.T) {
	for _, bad := range texts(
		"\n", "a\n", "\na", "a b\nc", "\"\n", "a\\\n",
		`\`, `a\`, `\\\`, `a\\\`, `a b\`, `"\`, `a"\`, `" \\\`, ` \`, `a\\\\\`,
		`a b\"c`, `\" `, `"a\"`, `"\""`, "\t\\\\\\\"",
	) {
		for _, args := range [][]string{{bad}, {"a", bad}, {bad, "a"}, {"", bad, "b c"}, {bad, bad}} {
			checkUnwritten(t, "x", args, api.ErrForm)
		}
	}
}

func TestWritesErrArgIsAheadOfErrForm(t *testing.T) {
	long := strings.Repeat("x", api.MaxLine)
	for _, name := range texts("", "a b", "x") {
		for _, bad := range texts("\n", `a\`, `a b\"c`) {
			checkUnwritten(t, name, texts(bad), api.ErrForm)
			checkUnwritten(t, name, texts(bad, long), api.ErrArg)
			checkUnwritten(t, name, texts(long, bad), api.ErrArg)
			checkUnwritten(t, name, texts(bad+long), api.ErrArg)
			checkUnwritten(t, name+long, texts(bad), api.ErrArg)
		}
	}
	checkUnwritten(t, long+" ", nil, api.ErrArg)
	checkUnwritten(t, "", texts(long), api.ErrArg)
}
