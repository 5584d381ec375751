package store

import (
	"slices"

	"frisket/api"
)

// The kinds of entries; 0 is the kind of a name that is not there.
const (
	kindString = 1
	kindMacro  = 2
)

// maxLines bounds the lines of an entry.
const maxLines = 2000

// entry is a string or a macro. Its names share it through a pointer, so it is changed in its place.
type entry struct {
	kind  int
	text  string     // empty in a macro
	lines []api.Line // none in a string
}

// length counts the bytes of a string, or the lines of a macro.
func (e *entry) length() int {
	if e.kind == kindString {
		return len(e.text)
	}
	return len(e.lines)
}

// keep leaves the bytes or lines from one place up to an end, which is not with them.
func (e *entry) keep(from, end int) {
	if e.kind == kindString {
		e.text = e.text[from:end]
		return
	}
	e.lines = e.lines[from:end]
}

// twin returns an entry of the same content. The boxes need no copies: no line is changed once it is in the store.
func (e *entry) twin() *entry {
	return &entry{kind: e.kind, text: e.text, lines: slices.Clone(e.lines)}
}

// span returns what the places from and to have in common with a length: where it begins, and its end, which is not with it.
func span(from, to, length int) (begin, end int) {
	from, to = fromFront(from, length), fromFront(to, length)
	if from > to {
		from, to = to, from
	}
	begin, last := max(from, 0), min(to, length-1)
	if begin > last {
		return 0, 0
	}
	return begin, last + 1
}

// fromFront counts a place from the front that may be counted from the end.
func fromFront(place, length int) int {
	if place < 0 {
		return place + length
	}
	return place
}
