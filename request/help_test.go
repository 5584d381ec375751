package request_test

import (
	"fmt"
	"slices"
	"strings"
	"testing"

	"frisket/api"
	"frisket/request"
)

func texts(s ...string) []string { return s }

// short shows a value whose texts may be long.
func short(v any) string {
	s := fmt.Sprintf("%q", v)
	if len(s) > 160 {
		return s[:120] + ".. of " + fmt.Sprint(len(s)) + " bytes"
	}
	return s
}

func sameRequest(a, b request.Request) bool {
	return a.Name == b.Name && a.Rest == b.Rest && a.Quiet == b.Quiet && slices.Equal(a.Args, b.Args)
}

// checkSplit asks for a control line with the default control bytes.
func checkSplit(t *testing.T, line string, want request.Request) {
	t.Helper()
	if got, is, err := request.Split(line, '.', '\''); !is || err != api.OK || !sameRequest(got, want) {
		t.Errorf("Split of %s: %s, %v, error %d, want %s", short(line), short(got), is, err, short(want))
	}
}

// checkNoRequest asks for what Split answers together with zero values.
func checkNoRequest(t *testing.T, line string, control, quiet byte, want api.Errno) {
	t.Helper()
	if got, is, err := request.Split(line, control, quiet); is || err != want || !sameRequest(got, request.Request{}) {
		t.Errorf("Split of %s with %q, %q: %s, %v, error %d, want error %d", short(line), control, quiet, short(got), is, err, want)
	}
}

func checkWords(t *testing.T, s string, want ...string) {
	t.Helper()
	if got := request.Words(s); !slices.Equal(got, want) {
		t.Errorf("Words of %s: %s, want %s", short(s), short(got), short(want))
	}
}

func checkCondition(t *testing.T, s string, want request.Cond) {
	t.Helper()
	if got, err := request.Condition(s); got != want || err != api.OK {
		t.Errorf("Condition of %s: %s, error %d, want %s", short(s), short(got), err, short(want))
	}
}

func checkBadCondition(t *testing.T, s string, want api.Errno) {
	t.Helper()
	if got, err := request.Condition(s); got != (request.Cond{}) || err != want {
		t.Errorf("Condition of %s: %s, error %d, want error %d", short(s), short(got), err, want)
	}
}

func checkBraces(t *testing.T, line string, depth, wantDepth, wantPlace int) {
	t.Helper()
	if got, at := request.Braces(line, depth); got != wantDepth || at != wantPlace {
		t.Errorf("Braces of %s from %d: %d at %d, want %d at %d", short(line), depth, got, at, wantDepth, wantPlace)
	}
}

func checkWrite(t *testing.T, name string, args []string, want string) {
	t.Helper()
	if got, err := request.Write(name, args); got != want || err != api.OK {
		t.Errorf("Write of %s, %s: %s, error %d, want %s", short(name), short(args), short(got), err, short(want))
	}
}

func checkUnwritten(t *testing.T, name string, args []string, want api.Errno) {
	t.Helper()
	if got, err := request.Write(name, args); got != "" || err != want {
		t.Errorf("Write of %s, %s: %s, error %d, want error %d", short(name), short(args), short(got), err, want)
	}
}

// allBytes are the 256 bytes.
func allBytes() []byte {
	var all []byte
	for c := range 256 {
		all = append(all, byte(c))
	}
	return all
}

// picker chooses the same numbers in each run.
type picker uint64

func (p *picker) below(n int) int {
	*p = *p*6364136223846793005 + 1442695040888963407
	return int(uint64(*p)>>33) % n
}

// text chooses up to most of the pieces.
func (p *picker) text(most int, pieces ...string) string {
	var s strings.Builder
	for range p.below(most + 1) {
		s.WriteString(pieces[p.below(len(pieces))])
	}
	return s.String()
}
