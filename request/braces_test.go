package request_test

import (
	"math"
	"strings"
	"testing"

	"frisket/request"
)

// P6.3: Braces

func TestBracesAreCounted(t *testing.T) {
	for depth := range 5 {
		checkBraces(t, "", depth, depth, -1)
		checkBraces(t, "text", depth, depth, -1)
		checkBraces(t, "{", depth, depth, -1)
		checkBraces(t, "}", depth, depth, -1)
		checkBraces(t, `\{`, depth, depth+1, -1)
		checkBraces(t, `a\{b\{c`, depth, depth+2, -1)
		checkBraces(t, `.if o \{\`, depth, depth+1, -1)
	}
	checkBraces(t, `\}`, 2, 1, -1)
	checkBraces(t, `a\}b\}c`, 5, 3, -1)
	checkBraces(t, `\}\{\}\{`, 3, 3, -1)
	checkBraces(t, `\{\{\}`, 0, 1, -1)
}

func TestTheDepthBecomes0(t *testing.T) {
	checkBraces(t, `\}`, 1, 0, 2)
	checkBraces(t, `a\{b\}c\}d`, 1, 0, 9)
	checkBraces(t, `\{\}`, 0, 0, 4)
	checkBraces(t, `x\{\{\}\}y`, 0, 0, 9)
	checkBraces(t, `\}\}`, 2, 0, 4)
	checkBraces(t, `\}abc\}def\}g`, 3, 0, 12)
	checkBraces(t, `\}}`, 1, 0, 2)
}

func TestWhatIsBehindTheEndIsNotLookedAt(t *testing.T) {
	checkBraces(t, `\}\{`, 1, 0, 2)
	checkBraces(t, `\}\{\{`, 1, 0, 2)
	checkBraces(t, `\}\{\}`, 1, 0, 2)
	checkBraces(t, `\}\}`, 1, 0, 2)
	checkBraces(t, `\{\}\{\}`, 0, 0, 4)
	checkBraces(t, `\{\}\{`, 0, 0, 4)
	checkBraces(t, `\}\`, 1, 0, 2)
}

func TestABraceAtDepth0IsNoEnd(t *testing.T) {
	checkBraces(t, `\}`, 0, 0, -1)
	checkBraces(t, `\}x\}`, 0, 0, -1)
	checkBraces(t, `\}\{`, 0, 1, -1)
	checkBraces(t, `\}\}\{\}`, 0, 0, 8)
	checkBraces(t, `\}\{x\}\{`, 0, 0, 7)
}

func TestADepthBelow0CountsAs0(t *testing.T) {
	for _, depth := range []int{-1, -2, -1000, math.MinInt} {
		checkBraces(t, "", depth, 0, -1)
		checkBraces(t, "x", depth, 0, -1)
		checkBraces(t, `\}`, depth, 0, -1)
		checkBraces(t, `\{`, depth, 1, -1)
		checkBraces(t, `\{\{`, depth, 2, -1)
		checkBraces(t, `\{x\}y`, depth, 0, 5)
		checkBraces(t, `\}\{\}`, depth, 0, 6)
	}
}

func TestEscapesThatAreNoBraces(t *testing.T) {
	for _, s := range texts(`\\{`, `\\}`, `\"{`, `\"}`, `\\\\{`, `\\\\}`, `\"\"}`, `\`, `a\`, `\\`, `\"`, `\n{`, `\x}`, `\ {`, `\ }`, `"{"`, "\\\n}") {
		checkBraces(t, s, 0, 0, -1)
		checkBraces(t, s, 1, 1, -1)
		checkBraces(t, s, 2, 2, -1)
	}
	for _, s := range texts(`\\`, `\"`, `\\\"`, `\"\\`, `"`, `'`, `\" remark `, `\n`, `\e`) {
		checkBraces(t, s+`\{`, 0, 1, -1)
		checkBraces(t, s+`\}x`, 1, 0, len(s)+2)
	}
	checkBraces(t, `\{\\{`, 0, 1, -1)
	checkBraces(t, `\\\{\\\\}`, 0, 1, -1)
	checkBraces(t, `\\\}`, 1, 0, 4)
}

func TestDepthsOfAnySize(t *testing.T) {
	checkBraces(t, `\}`, math.MaxInt, math.MaxInt-1, -1)
	checkBraces(t, `\}\{`, math.MaxInt, math.MaxInt, -1)
	checkBraces(t, `\{\{\{\}\}\}`, math.MaxInt, math.MaxInt, -1)
	checkBraces(t, strings.Repeat(`\{`, 50000), 7, 50007, -1)
	checkBraces(t, strings.Repeat(`\}`, 50000), 50000, 0, 100000)
	checkBraces(t, strings.Repeat(`\}`, 50000), 50001, 1, -1)
	checkBraces(t, strings.Repeat(`\{`, 50000)+strings.Repeat(`\}`, 50001), 0, 0, 200000)
}

// braces goes over a line escape by escape.
func braces(line string, depth int) (int, int) {
	depth = max(0, depth)
	left := line
	for left != "" {
		piece := left[:1]
		if len(left) > 1 && strings.Contains(`\\ \" \{ \}`, left[:2]) && left[0] == '\\' {
			piece = left[:2]
		}
		left = left[len(piece):]
		if piece == `\{` {
			depth++
		}
		if piece == `\}` && depth > 0 {
			if depth--; depth == 0 {
				return 0, len(line) - len(left)
			}
		}
	}
	return depth, -1
}

func TestManyBraces(t *testing.T) {
	p := picker(3)
	for range 100000 {
		line := p.text(12, `\`, `\{`, `\}`, "{", "}", "a", `"`, " ")
		depth := p.below(7) - 2
		wantDepth, wantPlace := braces(line, depth)
		checkBraces(t, line, depth, wantDepth, wantPlace)
		if t.Failed() {
			return
		}
	}
}

func TestTwoLinesOfABlockAreOne(t *testing.T) {
	p := picker(4)
	for range 20000 {
		first := p.text(6, `\{`, `\}`, "a", `\\`)
		second := p.text(6, `\{`, `\}`, "b", `\"`)
		depth, at := request.Braces(first, 2)
		if at < 0 {
			if depth, at = request.Braces(second, depth); at >= 0 {
				at += len(first)
			}
		}
		checkBraces(t, first+second, 2, depth, at)
	}
}
