package hyphen_test

import (
	"slices"
	"strings"
	"testing"

	"frisket/api"
	"frisket/hyphen"
)

// P9.3

func TestReadOfShow(t *testing.T) {
	p := picker(3)
	for range 3000 {
		word := p.text(1, 60, "a", "b", "Z", "q", "M")
		var points []int
		for place := 1; place < len(word); place++ {
			if p.below(3) == 0 {
				points = append(points, place)
			}
		}
		shown, err := hyphen.Show(word, points)
		if err != api.OK || strings.ReplaceAll(shown, "-", "") != word || !slices.Equal(places(shown), points) {
			t.Errorf("Show of %q, %v: %q, error %d", word, points, shown, err)
		}
		checkRead(t, shown, word, points...)
		checkShow(t, word, points, shown)
		checkException(t, shown, shown == strings.ToLower(shown))
	}
}

func TestReadOfShowOfPoints(t *testing.T) {
	p := picker(4)
	for range 1000 {
		word := p.text(1, 12, "a", "b", "A", "na", "ti", "st")
		points, err := hyphen.Points(word, append(hyphen.Standard(), p.patterns(5)...), nil, 1+p.below(3), 1+p.below(3))
		if err != api.OK {
			t.Fatal(word, err)
		}
		shown, _ := hyphen.Show(word, points)
		checkRead(t, shown, word, points...)
	}
}

func TestMorePatternsNeverMakeValuesLess(t *testing.T) {
	p := picker(5)
	for range 2000 {
		word := p.text(1, 10, "a", "b", "A")
		list := p.patterns(4)
		few, _ := hyphen.Values(word, list)
		at := p.below(len(list) + 1)
		list = slices.Insert(list, at, append(p.patterns(3), p.pattern())...)
		more, err := hyphen.Values(word, list)
		if err != api.OK || len(more) != len(word)+1 || len(few) != len(more) {
			t.Fatal(word, list, few, more, err)
		}
		for place := range more {
			if more[place] < few[place] {
				t.Errorf("Values of %q by %q: %v, %v by fewer", word, list, more, few)
			}
		}
	}
}

func TestWithoutPatternsAndExceptions(t *testing.T) {
	p := picker(6)
	for range 500 {
		word := p.text(1, 30, "a", "b", "Z", "na", "ti")
		checkPoints(t, word, nil, nil, 1+p.below(10), 1+p.below(10))
		checkValues(t, word, nil, make([]int, len(word)+1)...)
	}
}

// model returns the greatest digits at a word's places, as the chapter tells it.
func model(word string, patterns []string) []int {
	text := "." + strings.ToLower(word) + "."
	values := make([]int, len(word)+1)
	for _, pattern := range patterns {
		letters := strings.Map(func(c rune) rune {
			if '0' <= c && c <= '9' {
				return -1
			}
			return c
		}, pattern)
		for front := range text {
			if !strings.HasPrefix(text[front:], letters) {
				continue
			}
			ahead := front
			for _, c := range pattern {
				if c < '0' || c > '9' {
					ahead++
				} else if at := ahead - 1; int(c-'0') > values[at] {
					values[at] = int(c - '0')
				}
			}
		}
	}
	return values
}

func TestRandomWords(t *testing.T) {
	p := picker(7)
	for range 5000 {
		word := p.text(1, 10, "a", "b", "a", "b", "c", "A", "B")
		list := p.patterns(6)
		before, behind := 1+p.below(3), 1+p.below(3)
		values := model(word, list)
		checkValues(t, word, list, values...)
		var points []int
		for place, value := range values {
			if value%2 == 1 && place >= before && len(word)-place >= behind {
				points = append(points, place)
			}
		}
		checkPoints(t, word, list, texts(strings.ToLower(word)+"a"), before, behind, points...)
	}
}

func TestRandomStandardWords(t *testing.T) {
	p := picker(8)
	for range 2000 {
		word := p.text(1, 6, "na", "ti", "on", "st", "le", "ed", "es", "un", "re", "ght", "T", "io", "vu", "X")
		checkValues(t, word, hyphen.Standard(), model(word, hyphen.Standard())...)
	}
}

// TestNothingIsChanged hands each function lists with room behind them.
func TestNothingIsChanged(t *testing.T) {
	patterns := append(texts("a1b", "b2a.", ".c3"), "behind!")[:3]
	exceptions := append(texts("ab-ab", "a-b", "abab"), "behind!")[:3]
	points := append(ints(1, 3), 99)[:2]
	for range 2 {
		hyphen.Points("ABAB", patterns, exceptions, 1, 1)
		hyphen.Points("abcab", patterns, exceptions, 2, 2)
		hyphen.Points("", patterns, exceptions, 1, 1)
		hyphen.Values("abab", patterns)
		hyphen.Show("abab", points)
	}
	if !slices.Equal(patterns[:4], texts("a1b", "b2a.", ".c3", "behind!")) || !slices.Equal(exceptions[:4], texts("ab-ab", "a-b", "abab", "behind!")) || !slices.Equal(points[:3], ints(1, 3, 99)) {
		t.Error("changed:", patterns[:4], exceptions[:4], points[:3])
	}
}

// TestWhatIsReturnedIsNew: what is done to a result reaches no later one.
func TestWhatIsReturnedIsNew(t *testing.T) {
	for range 3 {
		list := hyphen.Standard()
		if len(list) != 77 || list[0] != "1ba" || list[76] != "1tion" {
			t.Errorf("Standard: %q", list)
		}
		clear(list)
		spoil(t, func() ([]int, api.Errno) { return hyphen.Points("abab", texts("a1b"), nil, 1, 1) }, 1, 3)
		spoil(t, func() ([]int, api.Errno) { return hyphen.Points("abab", nil, texts("a-b-ab"), 1, 1) }, 1, 2)
		spoil(t, func() ([]int, api.Errno) { return hyphen.Values("ab", texts("1a2b3")) }, 1, 2, 3)
		spoil(t, func() ([]int, api.Errno) { _, points, err := hyphen.Read("a-b-c"); return points, err }, 1, 2)
	}
}

// spoil asks twice, and changes what came first.
func spoil(t *testing.T, ask func() ([]int, api.Errno), want ...int) {
	t.Helper()
	first, _ := ask()
	second, err := ask()
	clear(first)
	_ = append(first[:0], 9, 9, 9)
	if !slices.Equal(second, want) || err != api.OK {
		t.Errorf("%v, error %d, want %v", second, err, want)
	}
}
