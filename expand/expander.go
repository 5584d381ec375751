package expand

import "frisket/api"

const (
	maxAsked = 500             // interpolations in one call
	maxBytes = 4 * api.MaxLine // of a result and of what is still to be read; a text of \w has these by itself
)

// limitMet is thrown where an expansion would go beyond a limit.
type limitMet struct{}

// expander is one call of Expand.
type expander struct {
	look     Look
	copyMode bool
	asked    int // how often, in the texts of \w too
}

// expand goes through a text from the left; an answer that is read again is put ahead of its rest.
func (e *expander) expand(rest string) string {
	var result []byte
	for rest != "" {
		p := first(rest, e.copyMode)
		read, behind := rest[:p.size], rest[p.size:]
		rest = behind
		switch p.kind {
		case kindStays:
			result = append(result, e.written(read)...)
		case kindNumber, kindWidth:
			answer := e.answer(p)
			result = append(result, answer...)
			mustFit(len(result), len(rest))
		case kindString, kindArgument:
			rest = e.answer(p) + behind
			mustFit(len(result), len(rest))
		}
	}
	return string(result)
}

// written returns what a piece that stays looks like in the result.
func (e *expander) written(read string) string {
	if e.copyMode && (read == `\\` || read == `\.`) {
		return read[1:]
	}
	return read
}

// answer asks what a piece stands for; of a \w behind all that its text asks.
func (e *expander) answer(p piece) string {
	name := p.name
	if p.kind == kindWidth {
		name = e.expand(name)
	}
	if e.asked == maxAsked {
		panic(limitMet{})
	}
	e.asked++
	return e.look(p.kind, name, p.step)
}

func mustFit(written, unread int) {
	if written+unread > maxBytes {
		panic(limitMet{})
	}
}
