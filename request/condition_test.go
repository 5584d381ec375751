package request_test

import (
	"strings"
	"testing"

	"frisket/api"
	"frisket/request"
)

// P6.2: Condition

func TestConditionsOfOneByte(t *testing.T) {
	for _, kind := range texts("o", "e", "t", "n") {
		k := kind[0]
		checkCondition(t, kind, request.Cond{Kind: k})
		checkCondition(t, kind+" x", request.Cond{Kind: k, Rest: "x"})
		checkCondition(t, kind+" \t x y ", request.Cond{Kind: k, Rest: "x y "})
		checkCondition(t, kind+"  ", request.Cond{Kind: k})
		for _, behind := range texts("x", "o", "e", "t", "n", "d", "1>2", "'a'b'", "!", "!o", `\{`, ".br", "\"", "\\", "\xff") {
			checkCondition(t, kind+behind, request.Cond{Kind: k, Rest: behind})
		}
		checkCondition(t, "!"+kind+"xx y", request.Cond{Not: true, Kind: k, Rest: "xx y"})
	}
}

func TestConditionsWithANot(t *testing.T) {
	for n := range 12 {
		for s, want := range map[string]request.Cond{
			"o x":      {Kind: 'o', Rest: "x"},
			"dx y":     {Kind: 'd', Name: "x", Rest: "y"},
			"rx y":     {Kind: 'r', Name: "x", Rest: "y"},
			"'a'b' y":  {Kind: '\'', Left: "a", Right: "b", Rest: "y"},
			"1=2 y":    {Kind: 'x', Name: "1=2", Rest: "y"},
			"1!2 y":    {Kind: 'x', Name: "1!2", Rest: "y"},
			"(!1) !y":  {Kind: 'x', Name: "(!1)", Rest: "!y"},
			"o!":       {Kind: 'o', Rest: "!"},
			"d!x":      {Kind: 'd', Name: "!x"},
			"'!'!'!o":  {Kind: '\'', Left: "!", Right: "!", Rest: "!o"},
			"\"!\"\"!": {Kind: '\'', Left: "!", Rest: "!"},
		} {
			want.Not = n%2 == 1
			checkCondition(t, strings.Repeat("!", n)+s, want)
			checkCondition(t, " \t"+strings.Repeat("!", n)+s, want)
		}
	}
}

func TestBlanksInFrontOfACondition(t *testing.T) {
	for _, blanks := range texts(" ", "\t", "   ", "\t ", " \t\t ") {
		for _, front := range texts("", "!", "!!") {
			not := front == "!"
			checkCondition(t, blanks+front+"o x", request.Cond{Not: not, Kind: 'o', Rest: "x"})
			checkCondition(t, blanks+front+"dx y", request.Cond{Not: not, Kind: 'd', Name: "x", Rest: "y"})
			checkCondition(t, blanks+front+"/a/b/y", request.Cond{Not: not, Kind: '\'', Left: "a", Right: "b", Rest: "y"})
			checkCondition(t, blanks+front+"1 y", request.Cond{Not: not, Kind: 'x', Name: "1", Rest: "y"})
			checkBadCondition(t, blanks+front, api.ErrForm)
			if front != "" {
				checkBadCondition(t, front+blanks+"o", api.ErrForm)
				checkBadCondition(t, front+blanks+"!o", api.ErrForm)
				checkBadCondition(t, blanks+front+blanks+"1", api.ErrForm)
				checkBadCondition(t, front+blanks, api.ErrForm)
			}
		}
	}
}

func TestConditionsOfANameThatIsThere(t *testing.T) {
	for _, kind := range texts("d", "r") {
		for _, name := range texts("x", "xx", "d", "r", "!", "'a'b'", "1+2", `\*x`, `x\`, `\`, `"a`, "(", "\x00", "\xff", "é", ".", "]") {
			checkCondition(t, kind+name, request.Cond{Kind: kind[0], Name: name})
			checkCondition(t, kind+name+" a b", request.Cond{Kind: kind[0], Name: name, Rest: "a b"})
			checkCondition(t, "!"+kind+name+"\t  a ", request.Cond{Not: true, Kind: kind[0], Name: name, Rest: "a "})
		}
		for _, behind := range texts("", " ", "\t", " x", "\tx", "   ") {
			checkBadCondition(t, kind+behind, api.ErrForm)
			checkBadCondition(t, "!"+kind+behind, api.ErrForm)
		}
	}
}

// quotes are the bytes that may stand around two texts.
func quotes() []string {
	var all []string
	for _, c := range allBytes() {
		if strings.IndexByte("abcdefghijklmnopqrstuvwxyzABCDEFGHIJKLMNOPQRSTUVWXYZ0123456789 \t\n(+-.|!\\", c) < 0 {
			all = append(all, string([]byte{c}))
		}
	}
	return all
}

func TestConditionsOfTwoTexts(t *testing.T) {
	for _, q := range quotes() {
		for _, k := range [][2]string{{"a", "b"}, {"a", "a"}, {"", "b"}, {"a", ""}, {"", ""}, {"a b", " \t"}, {`\`, `a\`}, {"!o", "dx"}} {
			want := request.Cond{Kind: '\'', Left: k[0], Right: k[1]}
			s := q + k[0] + q + k[1] + q
			checkCondition(t, s, want)
			want.Rest = "y z "
			checkCondition(t, s+"y z ", want)
			checkCondition(t, s+" \t y z ", want)
			want.Rest, want.Not = q+q+q, true
			checkCondition(t, "!"+s+q+q+q, want)
		}
		for _, s := range texts(q, q+"a", q+q, q+"a"+q, q+q+"b", q+"a"+q+"b", q+"a b"+q+" c ", q+"a"+q+`b\`) {
			checkBadCondition(t, s, api.ErrForm)
			checkBadCondition(t, " !"+s, api.ErrForm)
		}
	}
}

func TestOtherQuotesWithinTexts(t *testing.T) {
	checkCondition(t, `'"'/'x`, request.Cond{Kind: '\'', Left: `"`, Right: "/", Rest: "x"})
	checkCondition(t, `"'"/"x`, request.Cond{Kind: '\'', Left: "'", Right: "/", Rest: "x"})
	checkCondition(t, `'a\'b'x`, request.Cond{Kind: '\'', Left: `a\`, Right: "b", Rest: "x"})
	checkCondition(t, "\xc3\xa9\xc3a\xc3x", request.Cond{Kind: '\'', Left: "\xa9", Right: "a", Rest: "x"})
}

func TestConditionsOfAnExpression(t *testing.T) {
	for _, s := range texts(
		"1", "0", "9>8", "(1", "(1>2)", "+1", "-1", ".5", ".", "|1", "+", "-", `\nx`, `\n[x]>1`, `\`, `\'a'b'`, "1!2", "1'a'b'",
		"a", "b", "c", "f", "m", "p", "q", "s", "u", "v", "w", "x", "y", "z", "xo", "O", "E", "T", "N", "D", "R", "Dx", "A", "Z",
		"1\r2", "1\u00a02", `1\{`,
	) {
		checkCondition(t, s, request.Cond{Kind: 'x', Name: s})
		checkCondition(t, s+" ", request.Cond{Kind: 'x', Name: s})
		checkCondition(t, s+" a b ", request.Cond{Kind: 'x', Name: s, Rest: "a b "})
		checkCondition(t, s+"\t\t a", request.Cond{Kind: 'x', Name: s, Rest: "a"})
		checkCondition(t, "  !"+s+" a", request.Cond{Not: true, Kind: 'x', Name: s, Rest: "a"})
	}
	checkCondition(t, "( 1 ) x", request.Cond{Kind: 'x', Name: "(", Rest: "1 ) x"})
	checkCondition(t, `1\ 2`, request.Cond{Kind: 'x', Name: `1\`, Rest: "2"})
}

func TestEveryFirstByteOfACondition(t *testing.T) {
	quote := make(map[string]bool)
	for _, q := range quotes() {
		quote[q] = true
	}
	for _, c := range allBytes() {
		if strings.IndexByte("oetndr! \t\n", c) >= 0 {
			continue
		}
		first := string([]byte{c})
		if s := first + "a" + first + "b" + first; quote[first] {
			checkCondition(t, s, request.Cond{Kind: '\'', Left: "a", Right: "b"})
		} else {
			checkCondition(t, s, request.Cond{Kind: 'x', Name: s})
		}
	}
}

func TestEmptyConditions(t *testing.T) {
	for _, s := range texts("", " ", "\t", "  \t", "!", "!!", "!!!", " !", " !! ", "! o", "!! o", "! ! o", "!\to", "! 1") {
		checkBadCondition(t, s, api.ErrForm)
	}
}
