package source

import (
	"slices"
	"strings"

	"frisket/api"
)

// The kinds of frames.
const (
	kindFile  = 1
	kindMacro = 2
	kindWait  = 3
)

// maxName bounds the bytes of a frame's name.
const maxName = 100

// frame is what is read. Copies of a stack share the lines and the arguments, which are never changed in their place.
type frame struct {
	kind  int
	name  string // empty of what waits
	lines []api.Line
	next  int // the place of the next line
	args  []string
}

// fileOf makes a file of a text, if there can be such a file.
func fileOf(name, text string) (f frame, fit bool) {
	// Each line feed ends a line: a text of too many is not worth its split.
	if !canBe(name) || strings.Count(text, "\n") > api.MaxLines {
		return frame{}, false
	}
	lines := textLines(text)
	if !areLines(lines) {
		return frame{}, false
	}
	return frame{kind: kindFile, name: name, lines: lines}, true
}

// macroOf makes a macro with its arguments, if there can be such a macro.
func macroOf(name string, lines []api.Line, args []string) (f frame, fit bool) {
	if !canBe(name) || !areLines(lines) {
		return frame{}, false
	}
	return frame{kind: kindMacro, name: name, lines: copied(lines), args: slices.Clone(args)}, true
}

// waitOf makes what waits of lines, if they are such.
func waitOf(lines []api.Line) (f frame, fit bool) {
	if !areLines(lines) {
		return frame{}, false
	}
	return frame{kind: kindWait, lines: copied(lines)}, true
}

func canBe(name string) bool {
	return name != "" && len(name) <= maxName
}

func isFile(f frame) bool { return f.kind == kindFile }

func isMacro(f frame) bool { return f.kind == kindMacro }

func isNamed(f frame) bool { return isFile(f) || isMacro(f) }

func isUnread(f frame) bool { return f.next < len(f.lines) }

// staysBelow tells whether a frame stays when something is put on top of it.
func staysBelow(f frame) bool { return isNamed(f) || isUnread(f) }
