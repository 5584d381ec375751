package request

import (
	"slices"
	"strings"

	"frisket/api"
)

// Words lists the arguments of a text.
func Words(s string) []string {
	var words []string
	for s = s[blanks(s):]; s != ""; s = s[blanks(s):] {
		word, size := firstWord(s)
		words = append(words, word)
		s = s[size:]
	}
	return words
}

// firstWord reads the argument at the front of a text, and tells how many bytes it has there.
func firstWord(s string) (word string, size int) {
	if s[0] == '"' {
		word, size = quotedPart(s)
	}
	bare := bareSize(s[size:])
	return word + s[size:size+bare], size + bare
}

// quotedPart reads what is between the quote at the front and the one that ends it, or up to the end.
func quotedPart(s string) (part string, size int) {
	var b strings.Builder
	for size = 1; size < len(s); {
		switch {
		case strings.HasPrefix(s[size:], `""`):
			b.WriteByte('"')
			size += 2
		case s[size] == '"':
			return b.String(), size + 1
		default:
			n := together(s[size:])
			b.WriteString(s[size : size+n])
			size += n
		}
	}
	return b.String(), size
}

// bareSize tells how many bytes stand ahead of the next blank that no \ holds.
func bareSize(s string) int {
	size := 0
	for size < len(s) && !isBlank(s[size]) {
		size += together(s[size:])
	}
	return size
}

// together tells how many bytes at the front are not to be parted.
func together(s string) int {
	if s[0] == '\\' {
		return min(2, len(s))
	}
	return 1
}

// Write writes a control line whose Words are the arguments.
func Write(name string, args []string) (string, api.Errno) {
	var b strings.Builder
	b.WriteString("." + name)
	for _, arg := range args {
		b.WriteString(" " + written(arg))
	}
	if b.Len() > api.MaxLine {
		return "", api.ErrArg
	}
	if !canName(name) || !canRead(args) {
		return "", api.ErrForm
	}
	return b.String(), api.OK
}

// written puts an argument into quotes, if it needs them.
func written(arg string) string {
	if arg != "" && arg[0] != '"' && !strings.ContainsAny(arg, " \t") && !holdsOn(arg) {
		return arg
	}
	return `"` + strings.ReplaceAll(arg, `"`, `""`) + `"`
}

// holdsOn tells whether a text ends in a \ that would hold what is put behind it.
func holdsOn(s string) bool {
	return (len(s)-len(strings.TrimRight(s, `\`)))%2 == 1
}

// canName tells whether what is written ahead of the arguments is read again as the name.
func canName(name string) bool {
	return name != "" && !strings.ContainsAny(name, " \t\n")
}

// canRead tells whether each argument is read again as it was.
func canRead(args []string) bool {
	for _, arg := range args {
		if strings.Contains(arg, "\n") || !slices.Equal(Words(written(arg)), []string{arg}) {
			return false
		}
	}
	return true
}
