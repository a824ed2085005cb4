package script_test

import (
	"math"
	"regexp"
	"slices"
	"strconv"
	"strings"
	"testing"

	"sharedhearth/api"
	"sharedhearth/play"
	"sharedhearth/script"
)

// dice are numbers, the same ones in turn for each seed.
type dice uint32

func (d *dice) pick(n int) int {
	*d = *d*1664525 + 1013904223
	return int(*d>>8) % n
}

// number is small, or great, below or above 0.
func (d *dice) number() int {
	n := []int{0, 1, 9, 10, 99, 100, 255, 256, math.MaxInt - 1, math.MaxInt}[d.pick(10)]
	return []int{n, -n, -n - 1}[d.pick(3)]
}

// step is of any kind, with something in all its fields.
func (d *dice) step() api.Step {
	s := api.Step{Kind: 1 + d.pick(6), Node: d.number(), N: d.number(), Bit: d.number()}
	s.Op = api.Op{Kind: 1 + d.pick(4), Line: d.number(), Value: d.number()}
	return s
}

// bare is s without what its kind has not.
func bare(s api.Step) api.Step {
	switch {
	case s.Kind == api.StepOp && (s.Op.Kind == api.OpLoad || s.Op.Kind == api.OpEvict):
		return op(s.Node, s.Op.Kind, s.Op.Line, 0)
	case s.Kind == api.StepOp:
		return op(s.Node, s.Op.Kind, s.Op.Line, s.Op.Value)
	case s.Kind == api.StepSpoil:
		return spoils(s.N, s.Bit)
	case s.Kind == api.StepTimer:
		return timer(s.Node)
	}
	return api.Step{Kind: s.Kind, N: s.N}
}

// What is written is read: the same steps, but for what their kinds have not; and that is written the same way.
func TestWrittenIsRead(t *testing.T) {
	d := dice(1)
	for range 2000 {
		var l, want []api.Step
		for range d.pick(8) {
			s := d.step()
			l, want = append(l, s), append(want, bare(s))
		}
		text, err := script.Text(l)
		if err != api.OK {
			t.Fatalf("%v: error %d", l, err)
		}
		reads(t, text, want...)
		if again, err := script.Text(want); again != text || err != api.OK {
			t.Fatalf("%q, error %d, want %q", again, err, text)
		}
	}
}

const tens = `(-?[1-9][0-9]*|0)`

// Lines' looks, said another way than the program does.
var (
	right   = regexp.MustCompile(`\A(op ` + tens + ` ((load|evict) ` + tens + `|(store|add) ` + tens + ` ` + tens + `)|(go|drop|twice|timer) ` + tens + `|spoil ` + tens + ` ` + tens + `)\z`)
	aStep   = regexp.MustCompile(`\A(op|go|drop|twice|spoil|timer)( |\z)`)
	ofNode  = regexp.MustCompile(`(?s)\Aop ` + tens + ` (.*)\z`)
	aLoadOr = regexp.MustCompile(`\A(load|store|add|evict)( |\z)`)
)

// isInt is whether a number that is so written is an int.
func isInt(word string) bool {
	_, err := strconv.ParseInt(word, 10, 64)
	return err == nil
}

// lineError is what the chapter says of a line.
func lineError(line string) api.Errno {
	if !aStep.MatchString(line) {
		return api.ErrKind
	}
	if m := ofNode.FindStringSubmatch(line); m != nil && isInt(m[1]) && !aLoadOr.MatchString(m[2]) {
		return api.ErrKind
	}
	if !right.MatchString(line) {
		return api.ErrForm
	}
	for _, word := range strings.Fields(line) {
		if strings.ContainsAny(word, "0123456789") && !isInt(word) {
			return api.ErrForm
		}
	}
	return api.OK
}

// textError is that of the first line that has one; one without a line feed has it whatever stands there.
func textError(s string) api.Errno {
	lines := strings.Split(s, "\n")
	for _, line := range lines[:len(lines)-1] {
		if err := lineError(line); err != api.OK {
			return err
		}
	}
	if lines[len(lines)-1] != "" {
		return api.ErrForm
	}
	return api.OK
}

// holds is that s has the error that the chapter says, or else its steps are written just so again.
func holds(t *testing.T, s string) api.Errno {
	t.Helper()
	want := textError(s)
	l, err := script.Parse(s)
	if err != want {
		t.Fatalf("%q: error %d, want %d", s, err, want)
	}
	if err != api.OK {
		if len(l) != 0 {
			t.Fatalf("%q: %v beside error %d", s, l, err)
		}
		return err
	}
	if again, err := script.Text(l); again != s || err != api.OK {
		t.Fatalf("%q is read as %v, and written as %q, error %d", s, l, again, err)
	}
	return api.OK
}

// Texts of a few words each, in all ways to lay them.
func TestAllTextsOfFewWords(t *testing.T) {
	words := []string{"op", "go", "spoil", "load", "store", "x", "1", "-0", "", "\n", "\n1"}
	seen := map[api.Errno]int{}
	var all func(s string, more int)
	all = func(s string, more int) {
		seen[holds(t, s)]++
		seen[holds(t, s+"\n")]++
		if more == 0 {
			return
		}
		for _, w := range words {
			all(s+" "+w, more-1)
		}
	}
	for _, w := range words {
		all(w, 4)
	}
	for _, err := range []api.Errno{api.OK, api.ErrKind, api.ErrForm} {
		if seen[err] == 0 {
			t.Errorf("no text has error %d", err)
		}
	}
}

// Texts that were right, but for a few bytes here and there.
func TestTextsNearRightOnes(t *testing.T) {
	d := dice(2)
	odd := []string{" ", "  ", "\n", "\r", "\t", "0", "1", "-", "+", "x", "\x00", "\xff", "op", "load ", "9999999999", ""}
	seen := map[api.Errno]int{}
	for range 40000 {
		var l []api.Step
		for range 1 + d.pick(3) {
			l = append(l, d.step())
		}
		s, _ := script.Text(l)
		for range d.pick(3) {
			at := d.pick(len(s) + 1)
			to := min(len(s), at+d.pick(3))
			s = s[:at] + odd[d.pick(len(odd))] + s[to:]
			if s == "" {
				break
			}
		}
		seen[holds(t, s)]++
	}
	for _, err := range []api.Errno{api.OK, api.ErrKind, api.ErrForm} {
		if seen[err] < 1000 {
			t.Errorf("only %d texts have error %d", seen[err], err)
		}
	}
}

// A script is what a chip goes through: also steps that it refuses can be written.
func TestScriptIsPlayed(t *testing.T) {
	c := api.Config{Cores: 2, Lines: 1}
	l, err := script.Parse("op 1 store 0 7\nspoil 0 17\ngo 0\ntimer 1\ntwice 0\ndrop 1\ngo 3\ngo 0\ngo 0\nop 1 add 0 250\nop 1 load 0\n")
	if err != api.OK {
		t.Fatalf("error %d", err)
	}
	_, answers, done, err := play.Steps(c, l)
	if err != api.OK {
		t.Fatalf("error %d", err)
	}
	want := make([]api.Answer, 11)
	want[6].Err = api.ErrNone
	want[8].Done, want[9].Done, want[10].Done = 1, 1, 1
	if !slices.Equal(answers, want) {
		t.Errorf("%v, want %v", answers, want)
	}
	wantDone := []api.Done{
		{Core: 1, Op: api.Op{Kind: api.OpStore, Value: 7}},
		{Core: 1, Op: api.Op{Kind: api.OpAdd, Value: 250}, Value: 7},
		{Core: 1, Op: api.Op{Kind: api.OpLoad}, Value: 1},
	}
	if !slices.Equal(done, wantDone) {
		t.Errorf("%v, want %v", done, wantDone)
	}
}
