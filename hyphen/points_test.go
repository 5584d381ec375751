package hyphen_test

import (
	"strings"
	"testing"

	"frisket/hyphen"
)

// P9.2: Points and Values

func TestValuesAtEachPlace(t *testing.T) {
	checkValues(t, "ab", texts("1a2b3"), 1, 2, 3)
	checkValues(t, "a", texts("4a7"), 4, 7)
	checkValues(t, "a", texts(".4a7."), 4, 7)
	checkValues(t, "abc", texts("9b"), 0, 9, 0, 0)
	checkValues(t, "abc", texts("b9"), 0, 0, 9, 0)
	checkValues(t, "abc", texts("1a", "c2"), 1, 0, 0, 2)
	checkValues(t, "abcdefghi", texts("1a2b3c4d5e6f7g8h9i"), 1, 2, 3, 4, 5, 6, 7, 8, 9, 0)
	checkValues(t, "abc", nil, 0, 0, 0, 0)
	checkValues(t, "abc", texts("abc", ".a", "c.", "b"), 0, 0, 0, 0)
	checkValues(t, "abc", texts("1x", "b1a", "1ac"), 0, 0, 0, 0)
}

func TestValuesAtManyPlaces(t *testing.T) {
	checkValues(t, "aaaa", texts("1a"), 1, 1, 1, 1, 0)
	checkValues(t, "aaaa", texts("a1"), 0, 1, 1, 1, 1)
	checkValues(t, "aaaa", texts("1a2a3"), 1, 2, 3, 3, 3)
	checkValues(t, "abab", texts("1ab"), 1, 0, 1, 0, 0)
	checkValues(t, "ababa", texts("a1b2a"), 0, 1, 2, 1, 2, 0)
	checkValues(t, "abcabc", texts("c5a", "b4c"), 0, 0, 4, 5, 0, 4, 0)
}

func TestValuesAtTheEnds(t *testing.T) {
	checkValues(t, "aba", texts(".1a"), 1, 0, 0, 0)
	checkValues(t, "aba", texts(".a1"), 0, 1, 0, 0)
	checkValues(t, "aba", texts("1a."), 0, 0, 1, 0)
	checkValues(t, "aba", texts("a1."), 0, 0, 0, 1)
	checkValues(t, "aba", texts(".1b", "b1.", ".ba1", "1ab."), 0, 0, 0, 0)
	checkValues(t, "aba", texts(".1a2b3a4."), 1, 2, 3, 4)
	checkValues(t, "aba", texts(".1a.", ".1ab.", ".1ba."), 0, 0, 0, 0)
	checkValues(t, "aa", texts(".1a.", ".1aaa.", ".1aa2."), 1, 0, 2)
	checkValues(t, "a", texts(".1a", "a2."), 1, 2)
}

func TestPatternsLongerThanTheWord(t *testing.T) {
	checkValues(t, "ab", texts("1a2b3c", "c1a2b3", "1a1b1a1b1", "a1b1c", ".a1b1c", "c1a1b."), 0, 0, 0)
	checkValues(t, "a", texts("1"+strings.Repeat("a", 15), "1aa", "a1a", ".1aa", "1aa.", ".1aa."), 0, 0)
	full := strings.Repeat("a", 15)
	checkValues(t, full, texts("1"+full+"2"), 1, 0, 0, 0, 0, 0, 0, 0, 0, 0, 0, 0, 0, 0, 0, 2)
	checkValues(t, full[1:], texts("1"+full+"2"), make([]int, 15)...)
}

func TestTheGreatestValueCounts(t *testing.T) {
	checkValues(t, "ab", texts("a1b", "a2b", "a1b"), 0, 2, 0)
	checkValues(t, "ab", texts("a9b", "a2b", "a8b"), 0, 9, 0)
	checkValues(t, "ab", texts("a3", "2b", ".a1b", "a4b."), 0, 4, 0)
	checkValues(t, "ab", texts("1a5b1", "2a1b2"), 2, 5, 2)
	checkPoints(t, "ab", texts("a1b", "a2b"), nil, 1, 1)
	checkPoints(t, "ab", texts("a2b", "a1b"), nil, 1, 1)
	checkPoints(t, "ab", texts("a3b", "a2b"), nil, 1, 1, 1)
	checkPoints(t, "ab", texts("a2", "3b"), nil, 1, 1, 1)
	checkPoints(t, "aaa", texts("a1a", ".a2a"), nil, 1, 1, 2)
}

func TestOddValuesArePoints(t *testing.T) {
	for value, pattern := range texts("ab", "a1b", "a2b", "a3b", "a4b", "a5b", "a6b", "a7b", "a8b", "a9b") {
		checkValues(t, "ab", texts(pattern), 0, value, 0)
		if value%2 == 1 {
			checkPoints(t, "ab", texts(pattern), nil, 1, 1, 1)
			continue
		}
		checkPoints(t, "ab", texts(pattern), nil, 1, 1)
	}
	checkPoints(t, "abcdefghi", texts("1a2b3c4d5e6f7g8h9i"), nil, 1, 1, 2, 4, 6, 8)
	checkPoints(t, "abab", texts("b1a", ".a1b", "a1b."), nil, 1, 1, 1, 2, 3)
}

func TestNoPointAtTheWordsEnds(t *testing.T) {
	checkPoints(t, "ab", texts("1ab1", ".1a", "b1."), nil, 1, 1)
	checkPoints(t, "a", texts("1a1", ".1a", "a1.", ".1a1."), nil, 1, 1)
	checkPoints(t, "aaa", texts("1a1"), nil, 1, 1, 1, 2)
}

func TestCapitalLettersAreLookedAtAsSmallOnes(t *testing.T) {
	for _, word := range texts("nation", "Nation", "NATION", "naTIon") {
		checkPoints(t, word, hyphen.Standard(), nil, 2, 2, 2)
		checkPoints(t, word, hyphen.Standard(), texts("nat-ion"), 2, 2, 3)
		checkValues(t, word, texts(".1n2a3t", "o5n."), 1, 2, 3, 0, 0, 5, 0)
	}
	checkPoints(t, "AZ", texts("a1z"), nil, 1, 1, 1)
	checkPoints(t, "AZ", nil, texts("a-z"), 1, 1, 1)
}

// TestStandardWords has the chapter's example, and what its patterns say of other words.
func TestStandardWords(t *testing.T) {
	for _, shown := range texts("table", "na-tion", "ba-sic", "un-der", "let-ter", "re-mem-ber", "bet-ter", "hun-ted", "boxes", "si-len-ce", "re-s-ting", "a", "is") {
		checkShown(t, shown, hyphen.Standard(), nil, 2, 2)
	}
	checkValues(t, "table", hyphen.Standard(), 1, 0, 0, 4, 0, 0)
	checkValues(t, "nation", hyphen.Standard(), 1, 0, 1, 2, 0, 0, 0)
	checkValues(t, "hunted", hyphen.Standard(), 0, 0, 0, 1, 2, 0, 0)
	checkValues(t, "unreal", hyphen.Standard(), 0, 0, 1, 0, 0, 0, 0)
	checkValues(t, "react", hyphen.Standard(), 1, 0, 1, 0, 0, 0)
	checkValues(t, "houses", hyphen.Standard(), 0, 0, 0, 1, 2, 0, 0)
	checkValues(t, "lasting", hyphen.Standard(), 1, 0, 0, 1, 2, 0, 0, 0)
	checkValues(t, "light", hyphen.Standard(), 1, 0, 2, 0, 0, 0)
	checkValues(t, "vu", hyphen.Standard(), 0, 0, 0)
}

func TestExceptionsGoAhead(t *testing.T) {
	checkShown(t, "nat-ion", hyphen.Standard(), texts("nat-ion"), 1, 1)
	checkShown(t, "nation", hyphen.Standard(), texts("nation"), 1, 1)
	checkShown(t, "n-a-t-i-o-n", hyphen.Standard(), texts("n-a-t-i-o-n"), 1, 1)
	checkShown(t, "na-tion", hyphen.Standard(), texts("nat-ions", "ta-ble", "nat", "n-ations"), 1, 1)
	checkShown(t, "ab-cd", texts("a1bcd", "abc1d", "b2c"), texts("ab-cd"), 1, 1)
	checkShown(t, "a-bcdef", nil, texts("x-y", "a-bcdef", "y-z"), 1, 1)
}

func TestTheLastExceptionOfAWordCounts(t *testing.T) {
	checkPoints(t, "abcdef", nil, texts("ab-cd-ef", "abc-def"), 1, 1, 3)
	checkPoints(t, "abcdef", nil, texts("abc-def", "ab-cd-ef"), 1, 1, 2, 4)
	checkPoints(t, "abcdef", nil, texts("a-bcdef", "x-y", "abcdef", "x-y"), 1, 1)
	checkPoints(t, "abcdef", texts("c1d"), texts("a-bcdef", "abcdef"), 1, 1)
	checkPoints(t, "abcdef", texts("c1d"), texts("abcdef", "a-bcdef"), 1, 1, 1)
}

func TestFewLettersAheadOrBehind(t *testing.T) {
	for _, by := range [][2][]string{{texts("a1a"), nil}, {nil, texts("a-a-a-a-a-a")}} {
		checkPoints(t, "aaaaaa", by[0], by[1], 1, 1, 1, 2, 3, 4, 5)
		checkPoints(t, "aaaaaa", by[0], by[1], 2, 1, 2, 3, 4, 5)
		checkPoints(t, "aaaaaa", by[0], by[1], 1, 2, 1, 2, 3, 4)
		checkPoints(t, "aaaaaa", by[0], by[1], 2, 3, 2, 3)
		checkPoints(t, "aaaaaa", by[0], by[1], 3, 3, 3)
		checkPoints(t, "aaaaaa", by[0], by[1], 3, 4)
		checkPoints(t, "aaaaaa", by[0], by[1], 4, 3)
		checkPoints(t, "aaaaaa", by[0], by[1], 5, 1, 5)
		checkPoints(t, "aaaaaa", by[0], by[1], 1, 5, 1)
		checkPoints(t, "aaaaaa", by[0], by[1], 6, 1)
		checkPoints(t, "aaaaaa", by[0], by[1], 1, 6)
		checkPoints(t, "aaaaaa", by[0], by[1], 10, 10)
	}
	word := strings.Repeat("a", 20)
	checkPoints(t, word, texts("a1a"), nil, 10, 10, 10)
	checkPoints(t, word[1:], texts("a1a"), nil, 10, 10)
	checkShown(t, "Ba-nana", hyphen.Standard(), nil, 2, 3)
	checkShown(t, "Ba-na-na", hyphen.Standard(), nil, 2, 2)
}

func TestTheLongestWord(t *testing.T) {
	word, shown := strings.Repeat("x", 60), strings.Repeat("x-", 59)+"x"
	checkShown(t, shown, texts("x1x"), nil, 1, 1)
	checkShown(t, shown, nil, texts(shown), 1, 1)
	checkPoints(t, word, nil, texts(word[:30]+"-"+word[:30]), 10, 10, 30)
	checkPoints(t, word, texts(".xxxxx1", "1xxxxx."), nil, 1, 1, 5, 55)
}
