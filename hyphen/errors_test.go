package hyphen_test

import (
	"math"
	"strings"
	"testing"

	"frisket/api"
	"frisket/hyphen"
)

// P9.1

func TestWordsThatAreOnes(t *testing.T) {
	for _, word := range texts("a", "z", "A", "Z", "ab", "Word", strings.Repeat("x", 60), strings.Repeat("X", 60)) {
		checkPoints(t, word, nil, nil, 1, 1)
		checkValues(t, word, nil, make([]int, len(word)+1)...)
		checkShow(t, word, nil, word)
		checkRead(t, word, word)
		checkException(t, word, word == strings.ToLower(word))
	}
}

func TestWordsThatAreNone(t *testing.T) {
	none := texts("", strings.Repeat("x", 61), strings.Repeat("X", 61), strings.Repeat("x", 100000), "a1", "0", "a b", " a", "a ", "a.", ".a", "a'", "a\x00", "a\n", "é", "aß", "\u212a", "\xff")
	for c := range 256 {
		if c < 'A' || c > 'Z' && c < 'a' || c > 'z' {
			none = append(none, string([]byte{'a', byte(c), 'b'}))
		}
	}
	for _, word := range none {
		checkNoPoints(t, word, nil, nil, 1, 1, api.ErrArg)
		checkNoPoints(t, word, hyphen.Standard(), texts("a-b"), 2, 2, api.ErrArg)
		checkNoValues(t, word, nil, api.ErrArg)
		checkNoValues(t, word, hyphen.Standard(), api.ErrArg)
		checkNotShown(t, word)
		checkNotShown(t, word, 1)
		if strings.Contains(word, "-") {
			continue
		}
		checkNotRead(t, word)
		checkException(t, word, false)
	}
	checkNoPoints(t, "a-b", nil, nil, 1, 1, api.ErrArg)
	checkNoPoints(t, "a-b", nil, texts("a-b"), 1, 1, api.ErrArg)
}

func TestNumbersAheadAndBehind(t *testing.T) {
	word := strings.Repeat("a", 30)
	for _, n := range ints(1, 2, 9, 10) {
		for _, m := range ints(1, 2, 9, 10) {
			checkPoints(t, word, nil, nil, n, m)
		}
	}
	for _, n := range ints(0, 11, -1, 12, 60, math.MaxInt, math.MinInt) {
		checkNoPoints(t, word, nil, nil, n, 1, api.ErrArg)
		checkNoPoints(t, word, nil, nil, 1, n, api.ErrArg)
		checkNoPoints(t, word, nil, nil, n, n, api.ErrArg)
		checkNoPoints(t, word, nil, texts(word), n, 1, api.ErrArg)
		checkNoPoints(t, word, nil, texts(word), 1, n, api.ErrArg)
	}
}

func TestListsAtTheirBounds(t *testing.T) {
	checkPoints(t, "ab", many("a1b", 2000), nil, 1, 1, 1)
	checkPoints(t, "ab", nil, many("a-b", 2000), 1, 1, 1)
	checkPoints(t, "ab", many("a2b", 2000), many("a-b", 2000), 1, 1, 1)
	checkPoints(t, "ab", []string{}, []string{}, 1, 1)
	checkValues(t, "ab", many("a1b", 2000), 0, 1, 0)
	checkValues(t, "ab", []string{}, 0, 0, 0)
	for _, n := range ints(2001, 2002, 5000) {
		checkNoPoints(t, "ab", many("a1b", n), nil, 1, 1, api.ErrLimit)
		checkNoPoints(t, "ab", nil, many("a-b", n), 1, 1, api.ErrLimit)
		checkNoPoints(t, "ab", many("a1b", n), many("a-b", n), 1, 1, api.ErrLimit)
		checkNoValues(t, "ab", many("a1b", n), api.ErrLimit)
	}
	checkPoints(t, "ab", append(many("x", 1999), "a1b"), nil, 1, 1, 1)
	checkPoints(t, "ab", nil, append(texts("a-b"), many("x", 1999)...), 1, 1, 1)
}

func TestErrLimitIsAheadOfErrForm(t *testing.T) {
	checkNoPoints(t, "ab", many("!", 2001), nil, 1, 1, api.ErrLimit)
	checkNoPoints(t, "ab", nil, many("!", 2001), 1, 1, api.ErrLimit)
	checkNoPoints(t, "ab", texts("!"), many("a", 2001), 1, 1, api.ErrLimit)
	checkNoPoints(t, "ab", many("a", 2001), texts("!"), 1, 1, api.ErrLimit)
	checkNoPoints(t, "", many("!", 2001), texts("!"), 0, 11, api.ErrLimit)
	checkNoPoints(t, "", texts("!"), many("!", 2001), 0, 11, api.ErrLimit)
	checkNoPoints(t, "", many("a", 2001), nil, 0, 11, api.ErrLimit)
	checkNoPoints(t, "", nil, many("a", 2001), 0, 11, api.ErrLimit)
	checkNoValues(t, "ab", many("!", 2001), api.ErrLimit)
	checkNoValues(t, "", many("!", 2001), api.ErrLimit)
	checkNoValues(t, "", many("a", 2001), api.ErrLimit)
}

func TestErrFormIsAheadOfErrArg(t *testing.T) {
	checkNoPoints(t, "", texts("!"), nil, 1, 1, api.ErrForm)
	checkNoPoints(t, "", nil, texts("!"), 1, 1, api.ErrForm)
	checkNoPoints(t, "ab", texts("!"), nil, 0, 1, api.ErrForm)
	checkNoPoints(t, "ab", nil, texts("!"), 1, 11, api.ErrForm)
	checkNoPoints(t, "a1", texts("!"), texts("!"), -1, -1, api.ErrForm)
	checkNoValues(t, "", texts("!"), api.ErrForm)
	checkNoValues(t, "a1", texts("a1b", "!"), api.ErrForm)
}

// TestTheWholeListIsLookedAt: one that is none is found at any place, also where the word has its exception.
func TestTheWholeListIsLookedAt(t *testing.T) {
	for at := range 5 {
		patterns, exceptions := many("a1b", 5), many("a-b", 5)
		patterns[at] = "a11b"
		checkNoPoints(t, "ab", patterns, nil, 1, 1, api.ErrForm)
		checkNoPoints(t, "ab", patterns, exceptions, 1, 1, api.ErrForm)
		checkNoValues(t, "ab", patterns, api.ErrForm)
		exceptions[at] = "a--b"
		checkNoPoints(t, "ab", nil, exceptions, 1, 1, api.ErrForm)
		checkNoPoints(t, "ab", texts("a1b"), exceptions, 1, 1, api.ErrForm)
	}
}

func TestEmptyTextsInLists(t *testing.T) {
	checkNoPoints(t, "ab", texts(""), nil, 1, 1, api.ErrForm)
	checkNoPoints(t, "ab", nil, texts(""), 1, 1, api.ErrForm)
	checkNoValues(t, "ab", texts(""), api.ErrForm)
}
