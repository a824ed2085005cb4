package script_test

import (
	"math"
	"slices"
	"strings"
	"testing"

	"sharedhearth/api"
	"sharedhearth/script"
)

func op(node, kind, line, value int) api.Step {
	return api.Step{Kind: api.StepOp, Node: node, Op: api.Op{Kind: kind, Line: line, Value: value}}
}

func goes(n int) api.Step        { return api.Step{Kind: api.StepGo, N: n} }
func drop(n int) api.Step        { return api.Step{Kind: api.StepDrop, N: n} }
func twice(n int) api.Step       { return api.Step{Kind: api.StepTwice, N: n} }
func spoils(n, bit int) api.Step { return api.Step{Kind: api.StepSpoil, N: n, Bit: bit} }
func timer(node int) api.Step    { return api.Step{Kind: api.StepTimer, Node: node} }

// noKinds are numbers that are neither steps' kinds nor operations'.
var noKinds = []int{math.MinInt, -257, -6, -1, 0, 7, 8, 257, 258, 1<<32 + 1, math.MaxInt}

// written is steps, none of which has what its kind has not, and their lines. Read, each line is that step again.
var written = []struct {
	step api.Step
	line string
}{
	{op(0, api.OpLoad, 0, 0), "op 0 load 0"},
	{op(3, api.OpLoad, 2, 0), "op 3 load 2"},
	{op(1, api.OpStore, 0, 7), "op 1 store 0 7"},
	{op(0, api.OpStore, 0, 0), "op 0 store 0 0"},
	{op(2, api.OpAdd, 3, 255), "op 2 add 3 255"},
	{op(2, api.OpEvict, 1, 0), "op 2 evict 1"},
	{op(-1, api.OpStore, -2, -3), "op -1 store -2 -3"},
	{op(-10, api.OpLoad, -20, 0), "op -10 load -20"},
	{op(-9, api.OpEvict, 10, 0), "op -9 evict 10"},
	{op(100, api.OpAdd, 101, 256), "op 100 add 101 256"},
	{goes(0), "go 0"},
	{goes(39), "go 39"},
	{goes(-1), "go -1"},
	{drop(1), "drop 1"},
	{drop(-100), "drop -100"},
	{twice(9), "twice 9"},
	{twice(10), "twice 10"},
	{spoils(2, 95), "spoil 2 95"},
	{spoils(95, 2), "spoil 95 2"},
	{spoils(0, 0), "spoil 0 0"},
	{spoils(-5, -96), "spoil -5 -96"},
	{timer(0), "timer 0"},
	{timer(4), "timer 4"},
	{timer(-4), "timer -4"},
	{op(math.MaxInt, api.OpStore, math.MinInt, math.MaxInt), "op 9223372036854775807 store -9223372036854775808 9223372036854775807"},
	{op(math.MinInt, api.OpEvict, math.MaxInt, 0), "op -9223372036854775808 evict 9223372036854775807"},
	{spoils(math.MaxInt, math.MinInt), "spoil 9223372036854775807 -9223372036854775808"},
	{goes(math.MinInt), "go -9223372036854775808"},
	{timer(math.MaxInt), "timer 9223372036854775807"},
}

func TestPrint(t *testing.T) {
	for _, w := range written {
		if got, err := script.Print(w.step); got != w.line || err != api.OK {
			t.Errorf("%v: %q, error %d, want %q", w.step, got, err, w.line)
		}
	}
}

// What a kind has not means nothing, whatever stands there: it is not written, and no error.
func TestPrintOfWhatAKindHasNot(t *testing.T) {
	for _, n := range []int{math.MinInt, -1, 1, 77, math.MaxInt} {
		for _, x := range []struct {
			step api.Step
			want string
		}{
			{api.Step{Kind: api.StepOp, Node: 5, N: n, Bit: n, Op: api.Op{Kind: api.OpLoad, Line: 6, Value: n}}, "op 5 load 6"},
			{api.Step{Kind: api.StepOp, Node: 5, N: n, Bit: n, Op: api.Op{Kind: api.OpEvict, Line: 6, Value: n}}, "op 5 evict 6"},
			{api.Step{Kind: api.StepOp, Node: 5, N: n, Bit: n, Op: api.Op{Kind: api.OpStore, Line: 6, Value: 8}}, "op 5 store 6 8"},
			{api.Step{Kind: api.StepOp, Node: 5, N: n, Bit: n, Op: api.Op{Kind: api.OpAdd, Line: 6, Value: 8}}, "op 5 add 6 8"},
			{api.Step{Kind: api.StepGo, Node: n, N: 5, Bit: n, Op: api.Op{Kind: n, Line: n, Value: n}}, "go 5"},
			{api.Step{Kind: api.StepDrop, Node: n, N: 5, Bit: n, Op: api.Op{Kind: n, Line: n, Value: n}}, "drop 5"},
			{api.Step{Kind: api.StepTwice, Node: n, N: 5, Bit: n, Op: api.Op{Kind: n, Line: n, Value: n}}, "twice 5"},
			{api.Step{Kind: api.StepSpoil, Node: n, N: 5, Bit: 6, Op: api.Op{Kind: n, Line: n, Value: n}}, "spoil 5 6"},
			{api.Step{Kind: api.StepTimer, Node: 5, N: n, Bit: n, Op: api.Op{Kind: n, Line: n, Value: n}}, "timer 5"},
		} {
			if got, err := script.Print(x.step); got != x.want || err != api.OK {
				t.Errorf("%v: %q, error %d, want %q", x.step, got, err, x.want)
			}
		}
	}
}

func TestPrintOfNoKind(t *testing.T) {
	var l []api.Step
	for _, kind := range noKinds {
		l = append(l, api.Step{Kind: kind}, api.Step{Kind: kind, Node: 1, N: 1, Bit: 1, Op: api.Op{Kind: api.OpLoad}})
	}
	for _, kind := range append([]int{5, 6}, noKinds...) {
		l = append(l, op(0, kind, 0, 0), op(-1, kind, 1, 255))
	}
	for _, s := range l {
		if got, err := script.Print(s); got != "" || err != api.ErrKind {
			t.Errorf("%v: %q, error %d", s, got, err)
		}
	}
}

func TestText(t *testing.T) {
	var l []api.Step
	var want strings.Builder
	if got, err := script.Text([]api.Step{}); got != "" || err != api.OK {
		t.Errorf("no steps: %q, error %d", got, err)
	}
	for _, w := range written {
		l = append(l, w.step)
		want.WriteString(w.line + "\n")
		if got, err := script.Text(l); got != want.String() || err != api.OK {
			t.Fatalf("%v: %q, error %d, want %q", l, got, err, want.String())
		}
	}
	if got, err := script.Text(nil); got != "" || err != api.OK {
		t.Errorf("nil: %q, error %d", got, err)
	}
}

// Wherever the step stands that can't be written, nothing is told of the others.
func TestTextOfNoKind(t *testing.T) {
	for _, wrong := range []api.Step{{}, {Kind: 7}, op(0, 0, 0, 0), op(0, 5, 0, 0)} {
		for at := range 4 {
			l := slices.Insert([]api.Step{goes(1), timer(2), op(0, api.OpLoad, 0, 0)}, at, wrong)
			if got, err := script.Text(l); got != "" || err != api.ErrKind {
				t.Errorf("%v: %q, error %d", l, got, err)
			}
		}
	}
}

// A script may be longer than a chip goes through.
func TestManySteps(t *testing.T) {
	const many = 200000
	l := slices.Repeat([]api.Step{op(1, api.OpStore, 2, 3), goes(4)}, many/2)
	text, err := script.Text(l)
	if want := strings.Repeat("op 1 store 2 3\ngo 4\n", many/2); text != want || err != api.OK {
		t.Fatalf("%d bytes, error %d, want %d", len(text), err, len(want))
	}
	if got, err := script.Parse(text); !slices.Equal(got, l) || err != api.OK {
		t.Fatalf("%d steps, error %d, want %d", len(got), err, many)
	}
}

// What is handed in is only read, also behind its end.
func TestTextOnlyReads(t *testing.T) {
	l := []api.Step{goes(1), {Kind: api.StepTimer, Node: 2, N: 9, Bit: 9, Op: api.Op{Kind: 9}}, op(0, api.OpLoad, 0, 5), spoils(8, 8), {}}
	before := slices.Clone(l)
	if got, err := script.Text(l[:3]); got != "go 1\ntimer 2\nop 0 load 0\n" || err != api.OK {
		t.Errorf("%q, error %d", got, err)
	}
	if !slices.Equal(l, before) {
		t.Errorf("%v, but it was %v", l, before)
	}
}
