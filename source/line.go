package source

import (
	"slices"
	"strings"

	"frisket/api"
	"frisket/store"
)

// Lines returns the lines of a text.
func Lines(text string) []string {
	parts := strings.Split(text, "\n")
	if last := len(parts) - 1; parts[last] == "" {
		return parts[:last]
	}
	return parts
}

// textLines returns the lines of a text as lines of input.
func textLines(text string) []api.Line {
	var lines []api.Line
	for _, line := range Lines(text) {
		lines = append(lines, api.Line{Text: line})
	}
	return lines
}

// areLines tells whether lines are as in layer 3, and no more than a frame has.
func areLines(lines []api.Line) bool {
	if len(lines) > api.MaxLines {
		return false
	}
	// Layer 3 takes nothing but lines. They are shown to it one by one, because an entry has room for fewer than a frame.
	judge := store.New()
	for _, line := range lines {
		if judge.Macro("line", []api.Line{line}) != api.OK {
			return false
		}
	}
	return true
}

// copied returns lines that share no memory with those that were given.
func copied(lines []api.Line) []api.Line {
	fresh := slices.Clone(lines)
	for i, line := range fresh {
		fresh[i] = apart(line)
	}
	return fresh
}

// apart returns a line that shares no memory with the one that was given.
func apart(line api.Line) api.Line {
	line.Boxes = slices.Clone(line.Boxes)
	for i, box := range line.Boxes {
		line.Boxes[i].N = slices.Clone(box.N)
	}
	return line
}
