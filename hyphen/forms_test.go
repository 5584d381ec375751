package hyphen_test

import (
	"regexp"
	"strings"
	"testing"

	"frisket/hyphen"
)

// P9.2: Pattern and Exception

func TestPatterns(t *testing.T) {
	for _, s := range texts(
		"1a", "a1", "1ab", "a1b", "ab1", "1a2b3", "9z9", "1a1b1", ".a1", "a1.", ".a1b2.", ".1ab", "ab1.", ".1a.", ".a1.", ".1a2b3.", ".un1", "2ed.",
		"a", "ab", ".a", "a.", ".a.", ".ab.",
	) {
		checkForm(t, s, true)
	}
}

func TestPatternsOfManyLetters(t *testing.T) {
	full := strings.Repeat("x", 15)
	digits := strings.Repeat("1x", 15) + "1"
	for _, s := range texts(full, "1"+full, full+"1", "xxxxxxx1xxxxxxxx", digits, "."+full+".", "."+digits+".") {
		checkForm(t, s, true)
	}
	for _, s := range texts(full+"x", "1"+full+"x", full+"1x", digits+"x", "."+full+"x.", "."+digits+"x.", strings.Repeat("x", 100000), strings.Repeat("1x", 50000)) {
		checkForm(t, s, false)
	}
}

func TestNoPatterns(t *testing.T) {
	for _, s := range texts(
		"", "1", "9", "12", ".", "..", "...", ".1", "1.", ".1.", "1.1", // no letter
		"11a", "a11b", "a12b", "ab11", "a1b22", ".11a", "a11.", // two digits at one place
		"0a", "a0b", "a0", "0", "a10b", "a01b", ".0a.", // the digit 0
		"a.b", "a1.b", "a.1b", ".a.b", "a.b.", ".a.b.", "..a", "a..", "..a..", // a . in the middle
		"1.a", "1.ab", "a.1", "ab.1", "1.a.", ".a.1", "1.a.1", // a digit on the far side of a .
		"A", "A1b", "a1B", "aB1", ".Ab1", "1Z.", // capital letters
		"x!", "a-b", "a b", " a", "a ", "a1b ", "a\n", "\na1b", "a\x00", "é1a", "a1é", "\xff", "a+b", "1a/", "`a1", "{a1", "a:", "a/1", "a1b;",
	) {
		checkForm(t, s, false)
	}
	for c := range 256 {
		letter := 'a' <= c && c <= 'z'
		digit := '1' <= c && c <= '9'
		checkForm(t, string([]byte{'a', byte(c), 'b'}), letter || digit)
		checkForm(t, string([]byte{byte(c), 'b'}), letter || digit || c == '.')
		checkForm(t, string([]byte{'a', byte(c)}), letter || digit || c == '.')
		checkForm(t, string([]byte{byte(c)}), letter)
	}
}

func TestManyPatterns(t *testing.T) {
	is := regexp.MustCompile(`^\.?[1-9]?([a-z][1-9]?){1,15}\.?$`)
	p := picker(1)
	for range 20000 {
		s := p.text(0, 12, "a", "b", "z", "1", "9", ".", "a", "b", "c1", "d2", texts("0", "A", "-", ".", "x", "y")[p.below(6)])
		checkForm(t, s, is.MatchString(s))
	}
	for range 5000 {
		s := p.text(0, 1, ".") + p.text(10, 18, "a", "b1", "c2") + p.text(0, 1, ".")
		checkForm(t, s, is.MatchString(s))
	}
}

func TestExceptions(t *testing.T) {
	for _, s := range texts("a", "z", "abc", "a-b", "a-bc", "ab-c", "a-b-c-d", "ta-ble", strings.Repeat("x", 60), strings.Repeat("x-", 59)+"x", strings.Repeat("x", 30)+"-"+strings.Repeat("x", 30)) {
		checkException(t, s, true)
	}
	for _, s := range texts(
		"", "-", "--", "-a", "a-", "-a-", "-ab-c", "ab-c-", "a--b", "a---b", "a-b--c", "--a", "a--",
		"A", "A-b", "a-B", "aB", "Abc", "ABC", "a-bC",
		"a1", "1a", "a-1", "a.b", ".ab", "a b", " a-b", "a-b ", "a\n", "a-b\n", "a\x00b", "é", "a-é", "\xff", "a_b", "a+b", "a=b", "a~b", "a`", "a{", "a@", "a[",
		strings.Repeat("x", 61), strings.Repeat("x-", 60)+"x", strings.Repeat("x", 31)+"-"+strings.Repeat("x", 30), strings.Repeat("-", 100000), strings.Repeat("x-", 50000)+"x",
	) {
		checkException(t, s, false)
	}
}

func TestManyExceptions(t *testing.T) {
	is := regexp.MustCompile(`^[a-z]+(-[a-z]+)*$`)
	p := picker(2)
	for range 20000 {
		s := p.text(0, 8, "a", "b", "z", "-", "ab", "c-d", texts("0", "A", "-", ".", "x", "y")[p.below(6)])
		checkException(t, s, is.MatchString(s))
	}
	for range 2000 {
		s := p.text(50, 64, "a", "b", "c", "d-e")
		letters := len(s) - strings.Count(s, "-")
		checkException(t, s, is.MatchString(s) && letters <= 60)
	}
}

// TestStandardPatterns compares them with the chapter's list.
func TestStandardPatterns(t *testing.T) {
	const list = "1ba 1be 1bi 1bo 1bu 1ca 1ce 1ci 1co 1cu 1da 1de 1di 1do 1du 1fa 1fe 1fi 1fo 1fu 1ga 1ge 1gi 1go 1gu 1la 1le 1li 1lo 1lu " +
		"1ma 1me 1mi 1mo 1mu 1na 1ne 1ni 1no 1nu 1pa 1pe 1pi 1po 1pu 1ra 1re 1ri 1ro 1ru 1sa 1se 1si 1so 1su 1ta 1te 1ti 1to 1tu 1va 1ve 1vi 1vo " +
		"n1d n1t r1t l1t s1t2 2ed. 2es. .un1 .re1 t2io 4le. 2ght 1tion"
	got := hyphen.Standard()
	if strings.Join(got, " ") != list {
		t.Errorf("Standard: %q", got)
	}
	for _, s := range got {
		checkForm(t, s, true)
	}
}
