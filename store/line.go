package store

import (
	"slices"
	"strings"

	"frisket/api"
)

// maxWay bounds a made line's Up and Down.
const maxWay = 1000000

// maxBoxes bounds the boxes of a made line.
const maxBoxes = 2000

func isText(s string) bool {
	return len(s) <= api.MaxLine && !strings.Contains(s, "\n")
}

func areLines(lines []api.Line) bool {
	for _, line := range lines {
		if !isLine(line) {
			return false
		}
	}
	return true
}

// isLine tells whether a line is either a text or made, with nothing of the other.
func isLine(line api.Line) bool {
	if line.Made {
		return line.Text == "" && isWay(line.Up) && isWay(line.Down) && len(line.Boxes) <= maxBoxes
	}
	return isText(line.Text) && line.Up == 0 && line.Down == 0 && len(line.Boxes) == 0
}

func isWay(n int) bool {
	return n >= -maxWay && n <= maxWay
}

// copied returns lines that share no memory with those that were given.
func copied(lines []api.Line) []api.Line {
	fresh := slices.Clone(lines)
	for i, line := range fresh {
		fresh[i].Boxes = slices.Clone(line.Boxes)
		for j, box := range fresh[i].Boxes {
			fresh[i].Boxes[j].N = slices.Clone(box.N)
		}
	}
	return fresh
}
