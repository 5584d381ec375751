package register

import (
	"strconv"
	"strings"

	"frisket/api"
)

// maxDigits bounds the digits of a format.
const maxDigits = 9

// maxRoman is the greatest number with a roman text: 39 times m, and 999.
const maxRoman = 39999

// numerals are what a roman text is put together from, the greatest first.
var numerals = [...]struct {
	value int
	text  string
}{
	{1000, "m"}, {900, "cm"}, {500, "d"}, {400, "cd"},
	{100, "c"}, {90, "xc"}, {50, "l"}, {40, "xl"},
	{10, "x"}, {9, "ix"}, {5, "v"}, {4, "iv"}, {1, "i"},
}

// Write returns the text of a number by a format.
func Write(n int, form string) (string, api.Errno) {
	if err := formError(form); err != api.OK {
		return "", err
	}
	if err := rangeError(n); err != api.OK {
		return "", err
	}
	if n < 0 {
		return "-" + text(-n, form), api.OK
	}
	return text(n, form), api.OK
}

// Roman reads a roman text, small or great.
func Roman(s string) (int, api.Errno) {
	n := sum(strings.ToLower(s))
	if n < 1 || n > maxRoman {
		return 0, api.ErrForm
	}
	// Only the text that is written for the number is the number's.
	if small := roman(n); s != small && s != strings.ToUpper(small) {
		return 0, api.ErrForm
	}
	return n, api.OK
}

func formError(form string) api.Errno {
	switch form {
	case "i", "I", "a", "A":
		return api.OK
	}
	if form == "" || len(form) > maxDigits || strings.Trim(form, "0123456789") != "" {
		return api.ErrForm
	}
	return api.OK
}

// text writes a number that is not below 0.
func text(n int, form string) string {
	switch form {
	case "i":
		return roman(n)
	case "I":
		return strings.ToUpper(roman(n))
	case "a":
		return letters(n)
	case "A":
		return strings.ToUpper(letters(n))
	}
	return filled(strconv.Itoa(n), len(form))
}

func filled(digits string, width int) string {
	return strings.Repeat("0", max(0, width-len(digits))) + digits
}

func roman(n int) string {
	if n == 0 || n > maxRoman {
		return strconv.Itoa(n)
	}
	var b strings.Builder
	for _, numeral := range numerals {
		b.WriteString(strings.Repeat(numeral.text, n/numeral.value))
		n %= numeral.value
	}
	return b.String()
}

// letters counts a to z, aa to zz, aaa and so on: as with digits from 1 to 26.
func letters(n int) string {
	if n == 0 {
		return "0"
	}
	written := ""
	for ; n > 0; n = (n - 1) / 26 {
		written = string(rune('a'+(n-1)%26)) + written
	}
	return written
}

// sum adds up the numerals that a text begins with, in their order.
func sum(s string) int {
	n := 0
	for _, numeral := range numerals {
		for strings.HasPrefix(s, numeral.text) {
			n += numeral.value
			s = s[len(numeral.text):]
		}
	}
	return n
}
