package hyphen_test

import (
	"fmt"
	"slices"
	"strings"
	"testing"

	"frisket/api"
	"frisket/hyphen"
)

func texts(s ...string) []string { return s }

func ints(n ...int) []int { return n }

// short shows a value whose texts may be long.
func short(v any) string {
	s := fmt.Sprintf("%q", v)
	if len(s) > 160 {
		return s[:120] + ".. of " + fmt.Sprint(len(s)) + " bytes"
	}
	return s
}

// many lists one text n times.
func many(s string, n int) []string {
	return slices.Repeat(texts(s), n)
}

// checkShown asks for the points of a word and compares them as Read reads them from a text.
func checkShown(t *testing.T, want string, patterns, exceptions []string, before, behind int) {
	t.Helper()
	word := strings.ReplaceAll(want, "-", "")
	checkPoints(t, word, patterns, exceptions, before, behind, places(want)...)
}

// places are those of each - in a text.
func places(s string) []int {
	var places []int
	letters := 0
	for _, c := range s {
		if c == '-' {
			places = append(places, letters)
			continue
		}
		letters++
	}
	return places
}

func checkPoints(t *testing.T, word string, patterns, exceptions []string, before, behind int, want ...int) {
	t.Helper()
	got, err := hyphen.Points(word, patterns, exceptions, before, behind)
	if err != api.OK || !slices.Equal(got, want) {
		t.Errorf("Points of %q by %s, %s, %d, %d: %v, error %d, want %v", word, short(patterns), short(exceptions), before, behind, got, err, want)
	}
}

func checkNoPoints(t *testing.T, word string, patterns, exceptions []string, before, behind int, want api.Errno) {
	t.Helper()
	got, err := hyphen.Points(word, patterns, exceptions, before, behind)
	if err != want || len(got) != 0 {
		t.Errorf("Points of %q by %s, %s, %d, %d: %v, error %d, want error %d", word, short(patterns), short(exceptions), before, behind, got, err, want)
	}
}

func checkValues(t *testing.T, word string, patterns []string, want ...int) {
	t.Helper()
	got, err := hyphen.Values(word, patterns)
	if err != api.OK || !slices.Equal(got, want) {
		t.Errorf("Values of %q by %s: %v, error %d, want %v", word, short(patterns), got, err, want)
	}
}

func checkNoValues(t *testing.T, word string, patterns []string, want api.Errno) {
	t.Helper()
	if got, err := hyphen.Values(word, patterns); err != want || len(got) != 0 {
		t.Errorf("Values of %q by %s: %v, error %d, want error %d", word, short(patterns), got, err, want)
	}
}

func checkShow(t *testing.T, word string, points []int, want string) {
	t.Helper()
	if got, err := hyphen.Show(word, points); got != want || err != api.OK {
		t.Errorf("Show of %q, %v: %q, error %d, want %q", word, points, got, err, want)
	}
}

func checkNotShown(t *testing.T, word string, points ...int) {
	t.Helper()
	if got, err := hyphen.Show(word, points); got != "" || err != api.ErrArg {
		t.Errorf("Show of %q, %v: %q, error %d", word, points, got, err)
	}
}

func checkRead(t *testing.T, s, want string, points ...int) {
	t.Helper()
	if word, got, err := hyphen.Read(s); word != want || !slices.Equal(got, points) || err != api.OK {
		t.Errorf("Read of %q: %q, %v, error %d, want %q, %v", s, word, got, err, want, points)
	}
}

func checkNotRead(t *testing.T, s string) {
	t.Helper()
	if word, got, err := hyphen.Read(s); word != "" || len(got) != 0 || err != api.ErrForm {
		t.Errorf("Read of %s: %q, %v, error %d", short(s), word, got, err)
	}
}

// checkForm asks whether a text is a pattern, also where patterns are used.
func checkForm(t *testing.T, s string, want bool) {
	t.Helper()
	if got := hyphen.Pattern(s); got != want {
		t.Errorf("Pattern of %s: %v", short(s), got)
	}
	wantErr := api.ErrForm
	if want {
		wantErr = api.OK
	}
	if _, err := hyphen.Points("z", texts(s), nil, 1, 1); err != wantErr {
		t.Errorf("Points by %s: error %d", short(s), err)
	}
	if _, err := hyphen.Values("z", texts(s)); err != wantErr {
		t.Errorf("Values by %s: error %d", short(s), err)
	}
}

// checkException asks whether a text is an exception, also where exceptions are used.
func checkException(t *testing.T, s string, want bool) {
	t.Helper()
	if got := hyphen.Exception(s); got != want {
		t.Errorf("Exception of %s: %v", short(s), got)
	}
	wantErr := api.ErrForm
	if want {
		wantErr = api.OK
	}
	if _, err := hyphen.Points("z", nil, texts(s), 1, 1); err != wantErr {
		t.Errorf("Points with %s: error %d", short(s), err)
	}
}

// picker chooses the same numbers in each run.
type picker uint64

func (p *picker) below(n int) int {
	*p = *p*6364136223846793005 + 1442695040888963407
	return int(uint64(*p)>>33) % n
}

// text chooses from least to most of the pieces.
func (p *picker) text(least, most int, pieces ...string) string {
	var s strings.Builder
	for range least + p.below(most-least+1) {
		s.WriteString(pieces[p.below(len(pieces))])
	}
	return s.String()
}

// pattern chooses a pattern of few letters.
func (p *picker) pattern() string {
	end := texts("", "", "", ".")
	return p.text(1, 1, end...) + p.text(0, 1, "1", "2", "5") + p.text(1, 3, "a", "b", "a1", "b2", "a3", "b8", "a9") + p.text(1, 1, end...)
}

// patterns chooses up to most patterns.
func (p *picker) patterns(most int) []string {
	var list []string
	for range p.below(most + 1) {
		list = append(list, p.pattern())
	}
	return list
}
