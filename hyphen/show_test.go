package hyphen_test

import (
	"math"
	"strings"
	"testing"
)

// P9.2: Show and Read

func TestShow(t *testing.T) {
	checkShow(t, "word", nil, "word")
	checkShow(t, "word", []int{}, "word")
	checkShow(t, "word", ints(1), "w-ord")
	checkShow(t, "word", ints(3), "wor-d")
	checkShow(t, "word", ints(1, 2, 3), "w-o-r-d")
	checkShow(t, "Word", ints(1, 3), "W-or-d")
	checkShow(t, "WORD", ints(2), "WO-RD")
	checkShow(t, "a", nil, "a")
	checkShow(t, "ab", ints(1), "a-b")
}

func TestShowRefusesPlaces(t *testing.T) {
	checkNotShown(t, "word", 0)
	checkNotShown(t, "word", 4)
	checkNotShown(t, "word", 5)
	checkNotShown(t, "word", -1)
	checkNotShown(t, "word", math.MaxInt)
	checkNotShown(t, "word", math.MinInt)
	checkNotShown(t, "word", 0, 1)
	checkNotShown(t, "word", 1, 4)
	checkNotShown(t, "word", 1, 1)
	checkNotShown(t, "word", 1, 2, 2)
	checkNotShown(t, "word", 2, 1)
	checkNotShown(t, "word", 1, 3, 2)
	checkNotShown(t, "word", 2, -1)
	checkNotShown(t, "word", -1, 2)
	checkNotShown(t, "a", 0)
	checkNotShown(t, "a", 1)
	checkNotShown(t, "ab", 2)
	checkNotShown(t, "ab", make([]int, 100000)...)
}

func TestShowRefusesWords(t *testing.T) {
	for _, word := range texts("", "a-b", "a1", "a b", strings.Repeat("x", 61)) {
		checkNotShown(t, word)
		checkNotShown(t, word, 1)
		checkNotShown(t, word, 0)
	}
}

func TestRead(t *testing.T) {
	checkRead(t, "word", "word")
	checkRead(t, "a", "a")
	checkRead(t, "w-ord", "word", 1)
	checkRead(t, "wor-d", "word", 3)
	checkRead(t, "w-o-r-d", "word", 1, 2, 3)
	checkRead(t, "W-or-d", "Word", 1, 3)
	checkRead(t, "WO-RD", "WORD", 2)
	checkRead(t, strings.Repeat("x", 60), strings.Repeat("x", 60))
	checkRead(t, strings.Repeat("x", 40)+"-"+strings.Repeat("Y", 20), strings.Repeat("x", 40)+strings.Repeat("Y", 20), 40)
}

func TestReadRefuses(t *testing.T) {
	for _, s := range texts(
		"", "-", "--", "-word", "word-", "-word-", "-w-ord", "wor-d-", "w--ord", "w-o--rd", "w---ord", "--word", "word--",
		"w1rd", "1", "w-1", "w ord", " w-ord", "w-ord ", "w-ord\n", "w\x00", "w.ord", ".word", "w'ord", "w_ord", "é", "w-é", "\xff", "\u2010", "w@", "w[", "w`", "w{",
		strings.Repeat("x", 61), strings.Repeat("x", 60)+"-x", strings.Repeat("x-", 60)+"x", strings.Repeat("-", 100000), strings.Repeat("x-", 100000)+"x",
	) {
		checkNotRead(t, s)
	}
}
