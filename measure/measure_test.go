package measure

import (
	"math"
	"strconv"
	"strings"
	"testing"

	"frisket/api"
)

var plain = Context{Size: 10, Vs: 120, Here: 50}

// outcome is what a call returned, so that whole answers can be compared.
type outcome struct {
	n, used int
	err     api.Errno
}

func number(s string, scale byte, c Context) outcome {
	n, err := Number(s, scale, c)
	return outcome{n: n, err: err}
}

func eval(s string, scale byte, c Context) outcome {
	n, err := Eval(s, scale, c)
	return outcome{n: n, err: err}
}

func prefix(s string, scale byte, c Context) outcome {
	n, used, err := Prefix(s, scale, c)
	return outcome{n, used, err}
}

func change(old int, s string) outcome {
	n, err := Change(old, s, 'u', plain)
	return outcome{n: n, err: err}
}

func is(n int) outcome         { return outcome{n: n} }
func no(err api.Errno) outcome { return outcome{err: err} }
func deep(s string, n int) string {
	return strings.Repeat("(", n) + s + strings.Repeat(")", n)
}

func checkEval(t *testing.T, cases map[string]outcome) {
	t.Helper()
	for s, want := range cases {
		if got := eval(s, 'u', plain); got != want {
			t.Errorf("Eval(%q) = %v, want %v", s, got, want)
		}
	}
}

// P1.1

func TestContextsAndScalesOutOfBounds(t *testing.T) {
	wrong := []struct {
		scale byte
		c     Context
	}{
		{'q', plain}, {0, plain}, {' ', plain}, {'U', plain}, {'I', plain}, {'1', plain}, {255, plain},
		{'u', Context{Size: -1}}, {'u', Context{Size: 1000001}},
		{'u', Context{Vs: -1}}, {'u', Context{Vs: 1000001}},
		{'u', Context{Here: -1000000001}}, {'u', Context{Here: 1000000001}},
		{'u', Context{Size: math.MinInt}}, {'u', Context{Vs: math.MaxInt}}, {'u', Context{Here: math.MinInt}},
	}
	for _, k := range wrong {
		for _, s := range []string{"1", "", "x", "1/0", "999999999i"} {
			if got := number(s, k.scale, k.c); got != no(api.ErrArg) {
				t.Errorf("Number(%q, %v) = %v", s, k, got)
			}
			if got := eval(s, k.scale, k.c); got != no(api.ErrArg) {
				t.Errorf("Eval(%q, %v) = %v", s, k, got)
			}
			if got := prefix(s, k.scale, k.c); got != no(api.ErrArg) {
				t.Errorf("Prefix(%q, %v) = %v", s, k, got)
			}
			for _, sign := range []string{"", "+", "-"} {
				if n, err := Change(1, sign+s, k.scale, k.c); n != 0 || err != api.ErrArg {
					t.Errorf("Change(%q, %v) = %v %v", sign+s, k, n, err)
				}
			}
		}
		if n, err := Unit(k.scale, k.c); n != 0 || err != api.ErrArg {
			t.Errorf("Unit(%v) = %v %v", k, n, err)
		}
	}
}

func TestContextsAtTheirBounds(t *testing.T) {
	for _, c := range []Context{{}, {Size: 1000000, Vs: 1000000, Here: 1000000000}, {Here: -1000000000}} {
		if got := eval("1", 'u', c); got != is(1) {
			t.Errorf("%v: %v", c, got)
		}
	}
}

func TestErrorsComeInTheOrderOfTheReckoning(t *testing.T) {
	checkEval(t, map[string]outcome{
		"1/0+x":                no(api.ErrZero),
		"1/0x":                 no(api.ErrZero),
		"1/0+999999999i":       no(api.ErrZero),
		"1/0+" + deep("1", 21): no(api.ErrZero),
		"(1/0":                 no(api.ErrZero),
		"1+(2%0":               no(api.ErrZero),
		"x+1/0":                no(api.ErrForm),
		"1/x0":                 no(api.ErrForm),
		"1/(0":                 no(api.ErrForm),
		"1/0p.":                no(api.ErrZero),
		"1/(0)(":               no(api.ErrZero),
		"999999999i+x":         no(api.ErrRange),
		"999999999i/0":         no(api.ErrRange),
		"(999999999i":          no(api.ErrRange),
		"1/999999999i":         no(api.ErrRange),
		"0*999999999i":         no(api.ErrRange),
		"1/0*999999999i":       no(api.ErrZero),
		"999999999*2+x":        no(api.ErrRange),
		"999999999*2/0":        no(api.ErrRange),
	})
	if got := number("999999999ix", 'u', plain); got != no(api.ErrRange) {
		t.Error("Number", got)
	}
	if got := number("1x", 'u', plain); got != no(api.ErrForm) {
		t.Error("Number", got)
	}
}

func TestBracketsAreTwentyDeep(t *testing.T) {
	signs := strings.Repeat("-(", 20) + "--!-1" + strings.Repeat(")", 20)
	checkEval(t, map[string]outcome{
		deep("7", 20):                           is(7),
		deep("7", 21):                           no(api.ErrForm),
		strings.Repeat("(", 21):                 no(api.ErrForm),
		strings.Repeat("(", 1000000):            no(api.ErrForm),
		signs:                                   is(1),
		deep("1+"+deep("1", 10)+"*(2)", 10):     is(4),
		deep("1+"+deep("1", 10)+"*((2))", 11):   no(api.ErrForm),
		deep("1", 20) + "+" + deep("1", 20):     is(2),
		"(" + strings.Repeat("(1)+", 30) + "0)": is(30),
	})
}

// P1.2

func TestNumbersHaveScales(t *testing.T) {
	checkEval(t, map[string]outcome{
		"3u": is(3), "3p": is(30), "3P": is(360), "3i": is(2160), "3c": is(849), "3m": is(300), "3n": is(150), "3v": is(360),
		"007": is(7), "000000001": is(1), "0": is(0),
		"3q": no(api.ErrForm), "3U": no(api.ErrForm), "3 p": no(api.ErrForm), "3pp": no(api.ErrForm), "p": no(api.ErrForm),
	})
	for scale, want := range map[byte]int{'u': 2, 'p': 20, 'P': 240, 'i': 1440, 'c': 566, 'm': 200, 'n': 100, 'v': 240} {
		if got := eval("2", scale, plain); got != is(want) {
			t.Errorf("default scale %c: %v", scale, got)
		}
		if got := eval("2P", scale, plain); got != is(240) {
			t.Errorf("P with the default scale %c: %v", scale, got)
		}
		if got := prefix("1+2;", scale, plain); got != (outcome{want/2 + want, 3, api.OK}) {
			t.Errorf("Prefix with the default scale %c: %v", scale, got)
		}
		if n, err := Change(5, "-2", scale, plain); n != 5-want || err != api.OK {
			t.Errorf("Change with the default scale %c: %v %v", scale, n, err)
		}
	}
}

func TestPartsBehindThePoint(t *testing.T) {
	checkEval(t, map[string]outcome{
		"1.5p": is(15), "1.55p": is(15), "1.59p": is(15), "-1.59p": is(-15), ".5i": is(360), "0.5i": is(360), "1.9u": is(1), "1.9": is(1),
		".0013i": is(0), ".0014i": is(1), "1.05p": is(10), ".000000001p": is(0), ".999999999i": is(719), "0.999999999": is(0),
		"1.999999999i": is(1439), "123456789.999999999u": is(123456789), "1.5p+1.5p": is(30),
		"1.": no(api.ErrForm), ".": no(api.ErrForm), ".p": no(api.ErrForm), "1.p": no(api.ErrForm), "1.+2": no(api.ErrForm),
		"1..5": no(api.ErrForm), "1.5.5": no(api.ErrForm), "1. 5": no(api.ErrForm), "(1.)": no(api.ErrForm), "1,5": no(api.ErrForm),
	})
	big := Context{Size: 1000000}
	if got := eval(".999999999m", 'u', big); got != is(9999999) {
		t.Error(got)
	}
}

func TestNumbersTakeNineDigits(t *testing.T) {
	checkEval(t, map[string]outcome{
		"999999999": is(999999999), "999999999.999999999": is(999999999),
		"1234567890": no(api.ErrForm), "0000000001": no(api.ErrForm), "1.1234567890": no(api.ErrForm), ".1234567890": no(api.ErrForm),
		"1234567890p": no(api.ErrForm), "0000000001.5": no(api.ErrForm),
	})
	for s, want := range map[string]outcome{
		"1234567890": {123456789, 9, api.OK}, "0000000000p": {0, 9, api.OK}, "1.1234567899": {1, 11, api.OK}, ".0000000009": {0, 10, api.OK},
	} {
		if got := prefix(s, 'u', plain); got != want {
			t.Errorf("Prefix(%q) = %v, want %v", s, got, want)
		}
	}
}

func TestNumberReadsOneNumber(t *testing.T) {
	for s, want := range map[string]outcome{
		"2p": is(20), "+2p": is(20), "-2p": is(-20), "-1.55p": is(-15), ".5i": is(360), "-0": is(0), "7": is(7), "100000000p": is(1000000000), "-100000000p": is(-1000000000),
		"": no(api.ErrForm), "+": no(api.ErrForm), "-": no(api.ErrForm), "--2": no(api.ErrForm), "+-2": no(api.ErrForm), "-+2": no(api.ErrForm), "!2": no(api.ErrForm), "|2": no(api.ErrForm),
		"2p+1": no(api.ErrForm), "(2)": no(api.ErrForm), " 2": no(api.ErrForm), "2 ": no(api.ErrForm), "- 2": no(api.ErrForm), "1.": no(api.ErrForm), "1234567890": no(api.ErrForm), "2pp": no(api.ErrForm),
		"999999999p": no(api.ErrRange), "-999999999p": no(api.ErrRange),
	} {
		if got := number(s, 'u', plain); got != want {
			t.Errorf("Number(%q) = %v, want %v", s, got, want)
		}
	}
	if got := number("2", 'i', plain); got != is(1440) {
		t.Error("default scale", got)
	}
}

func TestOperators(t *testing.T) {
	checkEval(t, map[string]outcome{
		"1+2": is(3), "1-2": is(-1), "3*-2": is(-6),
		"7/2": is(3), "-7/2": is(-3), "7/-2": is(-3), "-7/-2": is(3),
		"7%3": is(1), "-7%3": is(-1), "7%-3": is(1), "-7%-3": is(-1), "6%3": is(0),
		"1<2": is(1), "2<2": is(0), "3<2": is(0), "1>2": is(0), "2>2": is(0), "3>2": is(1),
		"1<=2": is(1), "2<=2": is(1), "3<=2": is(0), "1>=2": is(0), "2>=2": is(1), "3>=2": is(1),
		"1=2": is(0), "2=2": is(1), "1==2": is(0), "2==2": is(1),
		"1&2": is(1), "1&0": is(0), "0&1": is(0), "-1&1": is(0), "1&-1": is(0), "-1&-1": is(0),
		"1:2": is(1), "1:0": is(1), "0:1": is(1), "0:0": is(0), "-1:0": is(0), "-1:1": is(1), "-1:-1": is(0),
		"1/0": no(api.ErrZero), "1%0": no(api.ErrZero), "0/0": no(api.ErrZero), "0%0": no(api.ErrZero), "1/(1-1)": no(api.ErrZero),
	})
}

func TestOperatorsAreAllAlikeFromLeftToRight(t *testing.T) {
	checkEval(t, map[string]outcome{
		"1i+2p*3": is(2220), "2*3+4": is(10), "2+3*4": is(20), "10-3-2": is(5), "100/10/5": is(2), "2+3==5": is(1), "5==2+3": is(3),
		"2=2&1": is(1), "0&1+5": is(5), "1+1<2*9": is(0), "3<2<1": is(1), "2+(3*4)": is(14), "20-(3-2)": is(19), "-1+2": is(1),
	})
}

func TestOperatorsAreReadLongestFirst(t *testing.T) {
	checkEval(t, map[string]outcome{
		"3<=3": is(1), "3>=4": is(0), "3<-3": is(0), "-3=-3": is(1), "3==+3": is(1), "3=!3": is(0),
		"3=<3": no(api.ErrForm), "3=>3": no(api.ErrForm), "3===3": no(api.ErrForm), "3<<3": no(api.ErrForm), "3<>3": no(api.ErrForm), "3= =3": no(api.ErrForm),
		"(3< =3)": no(api.ErrForm), "(3= =3)": no(api.ErrForm), "3!=3": no(api.ErrForm), "3&&3": no(api.ErrForm), "3**3": no(api.ErrForm),
	})
}

func TestSignsAheadOfAnOperand(t *testing.T) {
	checkEval(t, map[string]outcome{
		"-3": is(-3), "+3": is(3), "--3": is(3), "---3": is(-3), "+-3": is(-3), "-+-3": is(3), "2--3": is(5), "2*-+3": is(-6),
		"!0": is(1), "!5": is(0), "!-5": is(1), "-!0": is(-1), "!!5": is(1), "!!0": is(0), "!-1": is(1), "!1": is(0),
		"|100": is(50), "|0": is(-50), "|-100": is(-150), "-|100": is(-50), "||100": is(0), "!|40": is(1), "!|50": is(1), "!|51": is(0), "|!0": is(-49),
		"|100+5": is(55), "!0+1": is(2), "!1+1": is(1), "-(1+2)": is(-3), "|(60+40)": is(50), "(- - 3)": is(3), "(| 100)": is(50), "(! ( 0 ))": is(1),
		"-": no(api.ErrForm), "!": no(api.ErrForm), "|": no(api.ErrForm), "*3": no(api.ErrForm), "3-": no(api.ErrForm), "3-!": no(api.ErrForm), "- 3": no(api.ErrForm),
		strings.Repeat("-", 1000001) + "3": is(-3),
	})
	if got := eval("|0", 'u', Context{Here: -7}); got != is(7) {
		t.Error(got)
	}
}

func TestBlanksWithinBracketsOnly(t *testing.T) {
	checkEval(t, map[string]outcome{
		"(1 + 2)*3": is(9), "((1+1)*( 2 ))": is(4), "(  1  )": is(1), "( - 1 )": is(-1), "( ( 1 ) + 2 )": is(3), "( 1 <= 2 )": is(1), "(-  (2))": is(-2),
		" 1": no(api.ErrForm), "1 ": no(api.ErrForm), "1 +2": no(api.ErrForm), "1+ 2": no(api.ErrForm), "- 1": no(api.ErrForm), " (1)": no(api.ErrForm), "(1) ": no(api.ErrForm),
		"(1) +2": no(api.ErrForm), "1+ (2)": no(api.ErrForm), "- (1)": no(api.ErrForm), "(1 p)": no(api.ErrForm), "(1 2)": no(api.ErrForm), "(1 .5)": no(api.ErrForm), "(\t1)": no(api.ErrForm), "(1\n)": no(api.ErrForm),
		" ": no(api.ErrForm), "( )": no(api.ErrForm),
	})
}

func TestMalformedExpressions(t *testing.T) {
	checkEval(t, map[string]outcome{
		"": no(api.ErrForm), "x": no(api.ErrForm), "()": no(api.ErrForm), "(1": no(api.ErrForm), "1)": no(api.ErrForm), "(1))": no(api.ErrForm), "(": no(api.ErrForm), ")": no(api.ErrForm),
		"1+": no(api.ErrForm), "1<=": no(api.ErrForm), "1+*2": no(api.ErrForm), "(1+)": no(api.ErrForm), "(1)(2)": no(api.ErrForm), "1(2)": no(api.ErrForm), "(1)2": no(api.ErrForm), "(1)p": no(api.ErrForm),
		"1x2": no(api.ErrForm), "1+2x": no(api.ErrForm), "1\x00": no(api.ErrForm), "\x00": no(api.ErrForm), "\xff": no(api.ErrForm), "1;2": no(api.ErrForm), "1,": no(api.ErrForm), "[1]": no(api.ErrForm),
	})
}

func TestValuesStayWithinTheirRange(t *testing.T) {
	checkEval(t, map[string]outcome{
		"100000000p": is(1000000000), "-100000000p": is(-1000000000), "999999999+1": is(1000000000), "-999999999-1": is(-1000000000), "100000*10000": is(1000000000),
		"100000000.1p": no(api.ErrRange), "-100000000.1p": no(api.ErrRange), "999999999i": no(api.ErrRange), "999999999+2": no(api.ErrRange), "-999999999-2": no(api.ErrRange),
		"100000000p*100000000p": no(api.ErrRange), "-100000000p*100000000p": no(api.ErrRange), "999999999+2-2": no(api.ErrRange), "(999999999+2)-2": no(api.ErrRange),
		"100000000p*-1": is(-1000000000), "100000001*10": no(api.ErrRange), "-100000001*10": no(api.ErrRange), "|-999999999": no(api.ErrRange), "!|-999999999": no(api.ErrRange), "!999999999i": no(api.ErrRange),
	})
	far := Context{Size: 1000000, Vs: 1000000, Here: -1000000000}
	for s, want := range map[string]outcome{
		"|0": is(1000000000), "|1": no(api.ErrRange), "100m": is(1000000000), "101m": no(api.ErrRange), "999999999m": no(api.ErrRange), "200n": is(1000000000), "201n": no(api.ErrRange), "1000v": is(1000000000), "1001v": no(api.ErrRange),
	} {
		if got := eval(s, 'u', far); got != want {
			t.Errorf("Eval(%q) = %v, want %v", s, got, want)
		}
	}
}

func TestPrefixIsTheLongestBeginning(t *testing.T) {
	for s, want := range map[string]outcome{
		"10p+x": {100, 3, api.OK}, "1+(2/0": {1, 1, api.OK}, "1.": {1, 1, api.OK}, "1.p": {1, 1, api.OK}, "2p.5": {20, 2, api.OK}, "1.5.5": {1, 3, api.OK}, "1.5p+": {15, 4, api.OK},
		"1+2 +3": {3, 3, api.OK}, "1 + 2": {1, 1, api.OK}, "( 1 ) + 2": {1, 5, api.OK}, "1+2)": {3, 3, api.OK}, "(1)(2)": {1, 3, api.OK}, "-3-": {-3, 2, api.OK}, "1--": {1, 1, api.OK},
		"1<=x": {1, 1, api.OK}, "1<=2=": {1, 4, api.OK}, "1===2": {1, 1, api.OK}, "5=<2": {5, 1, api.OK}, "4ru": {4, 1, api.OK}, "4pru": {40, 2, api.OK}, "2*3+4*": {10, 5, api.OK},
		"1+999999999i*(": no(api.ErrRange), "2+(999999999i": {2, 1, api.OK}, "1+2*(3+x)": {3, 3, api.OK}, "1+((2)": {1, 1, api.OK}, "7/0+x": no(api.ErrZero), "7/0": no(api.ErrZero), "7/(0": {7, 1, api.OK},
		"999999999ix": no(api.ErrRange), "1/0+999999999i": no(api.ErrZero), "0|5": {0, 1, api.OK}, "|100x": {50, 4, api.OK}, "1+2+3!4": {6, 5, api.OK}, "1\x00": {1, 1, api.OK},
		"1+" + deep("2", 20): {3, 43, api.OK}, "1+" + deep("2", 21): {1, 1, api.OK}, "1+2:1/0x": no(api.ErrZero),
		"": no(api.ErrForm), "x": no(api.ErrForm), "-": no(api.ErrForm), " 1": no(api.ErrForm), "(1": no(api.ErrForm), "(1/0": no(api.ErrForm), "(999999999i": no(api.ErrForm), "(1+2x)": no(api.ErrForm), ".": no(api.ErrForm), "()": no(api.ErrForm),
		"-(1": no(api.ErrForm), deep("1", 21): no(api.ErrForm), "*1": no(api.ErrForm), "(1 2)": no(api.ErrForm),
	} {
		if got := prefix(s, 'u', plain); got != want {
			t.Errorf("Prefix(%q) = %v, want %v", s, got, want)
		}
	}
}

// P1.3

func TestChange(t *testing.T) {
	for s, want := range map[string]outcome{
		"7": is(7), "7+1": is(8), "(7)": is(7), "|100": is(50), "!0": is(1), "+7": is(107), "-7": is(93), "-1+2": is(97), "+1-2": is(99), "--3": is(103), "-+3": is(97), "+-3": is(97), "++3": is(103),
		"+2*3": is(106), "-2*3": is(94), "-1p": is(90), "+(1 + 2)": is(103), "-|100": is(50), "+0": is(100),
		"": no(api.ErrForm), "+": no(api.ErrForm), "-": no(api.ErrForm), "--": no(api.ErrForm), "+x": no(api.ErrForm), "+ 1": no(api.ErrForm), " +1": no(api.ErrForm), "-1+": no(api.ErrForm), "x": no(api.ErrForm),
		"+1/0": no(api.ErrZero), "1/0": no(api.ErrZero), "-999999999i": no(api.ErrRange), "999999999i": no(api.ErrRange), "+999999999": no(api.ErrRange), "+999999999+x": no(api.ErrForm), "+999999900": is(1000000000), "+999999901": no(api.ErrRange),
	} {
		if got := change(100, s); got != want {
			t.Errorf("Change(100, %q) = %v, want %v", s, got, want)
		}
	}
}

func TestChangeOfOldAtItsBounds(t *testing.T) {
	const most = 1000000000
	for _, k := range []struct {
		old  int
		s    string
		want outcome
	}{
		{most, "+0", is(most)}, {-most, "-0", is(-most)}, {most, "+1", no(api.ErrRange)}, {most, "-1", is(most - 1)}, {-most, "-1", no(api.ErrRange)}, {-most, "+1", is(1 - most)},
		{most, "-100000000p", is(0)}, {-most, "-100000000p", no(api.ErrRange)}, {-100, "-999999900", is(-most)}, {-100, "-999999901", no(api.ErrRange)}, {most, "5", is(5)},
		{most + 1, "5", no(api.ErrArg)}, {-most - 1, "5", no(api.ErrArg)}, {most + 1, "-1", no(api.ErrArg)}, {-most - 1, "+1", no(api.ErrArg)}, {most + 1, "", no(api.ErrArg)}, {most + 1, "1/0", no(api.ErrArg)},
		{math.MaxInt, "+x", no(api.ErrArg)}, {math.MinInt, "-1", no(api.ErrArg)},
	} {
		if got := change(k.old, k.s); got != k.want {
			t.Errorf("Change(%d, %q) = %v, want %v", k.old, k.s, got, k.want)
		}
	}
}

func TestUnit(t *testing.T) {
	c := Context{Size: 7, Vs: 13, Here: -1}
	for scale, want := range map[byte]int{'u': 1, 'p': 10, 'P': 120, 'i': 720, 'c': 283, 'm': 70, 'n': 35, 'v': 13} {
		if n, err := Unit(scale, c); n != want || err != api.OK {
			t.Errorf("Unit(%c) = %v %v", scale, n, err)
		}
	}
	if n, err := Unit('m', Context{Size: 1000000}); n != 10000000 || err != api.OK {
		t.Error(n, err)
	}
	if n, err := Unit('v', Context{}); n != 0 || err != api.OK {
		t.Error(n, err)
	}
	known := 0
	for b := range 256 {
		if _, err := Unit(byte(b), c); err == api.OK {
			known++
		}
	}
	if known != 8 {
		t.Error("scales", known)
	}
}

func TestText(t *testing.T) {
	for _, k := range []struct {
		n     int
		scale byte
		want  string
		err   api.Errno
	}{
		{0, 'u', "0u", 0}, {0, 'p', "0p", 0}, {100, 'u', "100u", 0}, {10, 'p', "1p", 0}, {100, 'p', "10p", 0}, {15, 'p', "1.5p", 0}, {9, 'p', "0.9p", 0}, {1009, 'p', "100.9p", 0},
		{720, 'i', "1i", 0}, {7200, 'i', "10i", 0}, {1, 'i', "0.0013i", 0}, {7, 'i', "0.0097i", 0}, {72, 'i', "0.1i", 0}, {36, 'i', "0.05i", 0}, {719, 'i', "0.9986i", 0}, {9, 'i', "0.0125i", 0},
		{130, 'P', "1.0833P", 0}, {120, 'P', "1P", 0}, {150, 'P', "1.25P", 0}, {119, 'P', "0.9916P", 0}, {1000000000, 'p', "100000000p", 0}, {1000000000, 'u', "1000000000u", 0},
		{math.MaxInt64, 'u', "9223372036854775807u", 0}, {math.MaxInt64, 'p', "922337203685477580.7p", 0},
		{-1, 'u', "", api.ErrArg}, {math.MinInt, 'i', "", api.ErrArg}, {1, 'c', "", api.ErrArg}, {1, 'm', "", api.ErrArg}, {1, 'n', "", api.ErrArg}, {1, 'v', "", api.ErrArg}, {1, 'q', "", api.ErrArg}, {1, 0, "", api.ErrArg},
	} {
		if s, err := Text(k.n, k.scale); s != k.want || err != k.err {
			t.Errorf("Text(%d, %c) = %q %v, want %q %v", k.n, k.scale, s, err, k.want, k.err)
		}
	}
}

// P1.4

// picker picks numbers that are the same in every run.
type picker uint64

func (p *picker) below(n int) int {
	*p = *p*6364136223846793005 + 1442695040888963407
	return int(uint64(*p) >> 33 % uint64(n))
}

func TestEvalOfTextIsTheNumber(t *testing.T) {
	p := picker(1)
	numbers := []int{0, 1, 9, 10, 11, 99, 999999999, 999999990}
	for range 3000 {
		numbers = append(numbers, p.below(1000000000))
	}
	for _, n := range numbers {
		for _, scale := range []byte("up") {
			s, err := Text(n, scale)
			if err != api.OK {
				t.Fatal(n, err)
			}
			if got := eval(s, 'i', plain); got != is(n) {
				t.Fatalf("Eval(%q) = %v, want %d", s, got, n)
			}
		}
	}
}

func TestChainsOfPlusAndMinusAreTheirSum(t *testing.T) {
	p := picker(2)
	for range 300 {
		sum := p.below(1000)
		text := strconv.Itoa(sum)
		for range p.below(200) {
			n := p.below(1000)
			if p.below(2) == 0 {
				sum += n
				text += "+" + strconv.Itoa(n)
			} else {
				sum -= n
				text += "-" + strconv.Itoa(n)
			}
		}
		if got := eval(text, 'u', plain); got != is(sum) {
			t.Fatalf("Eval(%q) = %v, want %d", text, got, sum)
		}
	}
}

// expression writes an expression of small numbers, with blanks within brackets.
func (p *picker) expression(depth int) string {
	blank := func() string {
		if depth == 0 {
			return ""
		}
		return strings.Repeat(" ", p.below(3))
	}
	text := ""
	for i := range 1 + p.below(3) {
		if i > 0 {
			ops := []string{"+", "-", "*", "/", "%", "<", ">", "=", "<=", ">=", "==", "&", ":"}
			text += blank() + ops[p.below(len(ops))] + blank()
		}
		for range p.below(3) {
			text += string("+-!|"[p.below(4)]) + blank()
		}
		if depth < 4 && p.below(3) == 0 {
			text += "(" + p.expression(depth+1) + ")"
		} else {
			text += []string{"1", "20", ".5i", "1.25p", "3v", "0"}[p.below(6)]
		}
	}
	return blank() + text + blank()
}

func TestPrefixOfAnExpressionIsAllOfIt(t *testing.T) {
	p := picker(3)
	good := 0
	for range 5000 {
		s := p.expression(0)
		want := eval(s, 'p', plain)
		if want.err == api.ErrForm {
			t.Fatalf("Eval(%q): malformed", s)
		}
		if want.err == api.OK {
			want.used = len(s)
			good++
		}
		if got := prefix(s, 'p', plain); got != want {
			t.Fatalf("Prefix(%q) = %v, want %v", s, got, want)
		}
		if got := prefix(s+";", 'p', plain); got != want {
			t.Fatalf("Prefix(%q;) = %v, want %v", s, got, want)
		}
	}
	if good < 1000 {
		t.Error("too few expressions could be reckoned:", good)
	}
}

// Rules

func TestAnyBytesEndWithoutPanic(t *testing.T) {
	p := picker(4)
	const bytes = "019.up(+-!|*/%<>=&:) \x00\xffx"
	for range 50000 {
		text := make([]byte, p.below(12))
		for i := range text {
			text[i] = bytes[p.below(len(bytes))]
		}
		s := string(text)
		whole, begun := eval(s, 'u', plain), prefix(s, 'u', plain)
		if whole.err == api.OK && begun != (outcome{whole.n, len(s), api.OK}) {
			t.Fatalf("Prefix(%q) = %v, Eval %v", s, begun, whole)
		}
		if begun.err == api.OK && eval(s[:begun.used], 'u', plain) != is(begun.n) {
			t.Fatalf("Prefix(%q) = %v is no expression", s, begun)
		}
		for i := begun.used + 1; i <= len(s) && begun.err == api.OK; i++ {
			if got := eval(s[:i], 'u', plain); got.err == api.OK {
				t.Fatalf("Prefix(%q) = %v, but %q is an expression", s, begun, s[:i])
			}
		}
		if got := number(s, 'u', plain); got.err == api.OK && got != whole {
			t.Fatalf("Number(%q) = %v, Eval %v", s, got, whole)
		}
	}
}
