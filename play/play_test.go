package play_test

import (
	"math"
	"reflect"
	"slices"
	"testing"

	"sharedhearth/api"
	"sharedhearth/frame"
	"sharedhearth/play"
)

func op(node, kind, line, value int) api.Step {
	return api.Step{Kind: api.StepOp, Node: node, Op: api.Op{Kind: kind, Line: line, Value: value}}
}

func goes(n int) api.Step        { return api.Step{Kind: api.StepGo, N: n} }
func drop(n int) api.Step        { return api.Step{Kind: api.StepDrop, N: n} }
func twice(n int) api.Step       { return api.Step{Kind: api.StepTwice, N: n} }
func spoils(n, bit int) api.Step { return api.Step{Kind: api.StepSpoil, N: n, Bit: bit} }
func timer(node int) api.Step    { return api.Step{Kind: api.StepTimer, Node: node} }

// did is what a core has done.
func did(core, kind, line, value, told int) api.Done {
	return api.Done{Core: core, Op: api.Op{Kind: kind, Line: line, Value: value}, Value: told}
}

// way is these messages, on the way.
func way(l ...api.Msg) [][]byte {
	var out [][]byte
	for _, m := range l {
		out = append(out, frame.Bytes(m))
	}
	return out
}

// fresh is a chip of that kind, on which nothing was done.
func fresh(c api.Config) api.Chip {
	var x api.Chip
	for range c.Cores {
		x.Cores = append(x.Cores, api.Core{Lines: make([]api.Line, c.Lines)})
	}
	for range c.Lines {
		x.Home = append(x.Home, api.Entry{Owner: -1, Last: make([]int, c.Cores)})
	}
	return x
}

// plain is x with nil for each list that has no entries: the document holds both for the same.
func plain(x api.Chip) api.Chip {
	var out api.Chip
	for _, c := range x.Cores {
		out.Cores = append(out.Cores, api.Core{Lines: append([]api.Line(nil), c.Lines...), Wait: c.Wait})
	}
	for _, e := range x.Home {
		e.Last = append([]int(nil), e.Last...)
		out.Home = append(out.Home, e)
	}
	for _, b := range x.Frames {
		out.Frames = append(out.Frames, append([]byte(nil), b...))
	}
	return out
}

func same(x, y api.Chip) bool {
	return reflect.DeepEqual(plain(x), plain(y))
}

// asked is a step, and the answer that it must have.
type asked struct {
	step api.Step
	want api.Answer
}

// plays is that the steps have these answers, and make that chip, with that done.
func plays(t *testing.T, c api.Config, l []asked, want api.Chip, wantDone ...api.Done) {
	t.Helper()
	var steps []api.Step
	for _, a := range l {
		steps = append(steps, a.step)
	}
	x, answers, done, err := play.Steps(c, steps)
	if err != api.OK || len(answers) != len(l) {
		t.Fatalf("error %d, %d answers to %d steps", err, len(answers), len(l))
	}
	for i, a := range l {
		if answers[i] != a.want {
			t.Errorf("step %d, %v: %v, want %v", i, a.step, answers[i], a.want)
		}
	}
	if !same(x, want) {
		t.Errorf("%v, want\n%v", x, want)
	}
	if !slices.Equal(done, wantDone) {
		t.Errorf("done are %v, want %v", done, wantDone)
	}
}

// What the steps' answers may be, but for errors.
var (
	none = api.Answer{}
	one  = api.Answer{Done: 1}
)

func refused(err api.Errno) api.Answer { return api.Answer{Err: err} }

// An operation may be done by its own step, by a frame that comes, or not at all.
func TestStepByStep(t *testing.T) {
	c := api.Config{Cores: 2, Lines: 2}
	want := fresh(c)
	want.Cores[0].Lines[1] = api.Line{State: api.Copy, Value: 9, Serial: 1, Seen: 2, Gave: 2, Given: 9}
	want.Cores[1].Lines[1] = api.Line{State: api.Copy, Value: 9, Serial: 1, Seen: 2}
	want.Cores[1].Lines[0] = api.Line{Want: api.MsgGetX, Serial: 1}
	want.Cores[1].Wait = api.Op{Kind: api.OpStore, Value: 3}
	want.Home[1] = api.Entry{Value: 9, Owner: -1, Sharers: 3, Turn: 2, Last: []int{1, 1}}
	want.Frames = way(api.Msg{Kind: api.MsgGetX, From: 1, To: 2, Serial: 1})
	plays(t, c, []asked{
		{op(0, api.OpStore, 1, 7), none},
		{goes(0), none}, // it is granted
		{goes(0), one},
		{op(0, api.OpAdd, 1, 2), one}, // it is alone: done at once
		{goes(0), none},
		{op(1, api.OpLoad, 1, 0), none},
		{goes(0), none}, // the home fetches it
		{goes(0), none}, // core 0 gives it
		{goes(0), none}, // it is granted
		{goes(0), one},
		{op(0, api.OpLoad, 1, 0), one}, // a copy is left: done at once
		{goes(0), none},
		{op(1, api.OpStore, 0, 3), none},
	}, want, did(0, api.OpStore, 1, 7, 0), did(0, api.OpAdd, 1, 2, 7), did(1, api.OpLoad, 1, 0, 9), did(0, api.OpLoad, 1, 0, 9))
}

// What is lost, there twice, spoilt, or said again is a step as any other: it has an answer.
func TestEachKindOfStep(t *testing.T) {
	c := api.Config{Cores: 1, Lines: 1}
	want := fresh(c)
	want.Cores[0].Lines[0] = api.Line{State: api.Alone, Value: 4, Serial: 1, Seen: 1}
	want.Home[0] = api.Entry{Owner: 0, Turn: 1, Last: []int{1}}
	want.Frames = way(api.Msg{Kind: api.MsgThanks, From: 0, To: 1, Turn: 1})
	plays(t, c, []asked{
		{op(0, api.OpAdd, 0, 4), none},
		{drop(0), none},
		{timer(0), none}, // the core asks again
		{twice(0), none},
		{spoils(0, 17), none},
		{goes(0), none},  // as lost
		{goes(0), none},  // it is granted
		{timer(1), none}, // the home grants it again
		{goes(0), one},
		{goes(0), none}, // of what is there twice nothing is done
		{goes(0), none},
	}, want, did(0, api.OpAdd, 0, 4, 0))
}

// Each refusal is told at its place, and those that follow go on as if it had not been asked for.
func TestWhatIsRefusedChangesNothing(t *testing.T) {
	c := api.Config{Cores: 2, Lines: 2}
	want := fresh(c)
	want.Cores[1].Lines[0] = api.Line{State: api.Alone, Value: 5, Serial: 1, Seen: 1}
	want.Home[0] = api.Entry{Phase: api.Granting, For: 1, Serial: 1, Alone: true, Owner: -1, Turn: 1, Last: []int{0, 1}}
	want.Frames = way(api.Msg{Kind: api.MsgThanks, From: 1, To: 2, Turn: 1})
	plays(t, c, []asked{
		{goes(0), refused(api.ErrNone)},
		{api.Step{}, refused(api.ErrKind)},
		{api.Step{Kind: 7}, refused(api.ErrKind)},
		{op(2, api.OpStore, 0, 5), refused(api.ErrNone)},
		{op(-1, api.OpStore, 0, 5), refused(api.ErrNone)},
		{op(1, 0, 0, 5), refused(api.ErrKind)},
		{op(1, api.OpStore, 2, 5), refused(api.ErrRange)},
		{op(1, api.OpStore, 0, 256), refused(api.ErrRange)},
		{op(1, api.OpStore, 0, 5), none},
		{op(1, api.OpLoad, 1, 0), refused(api.ErrBusy)},
		{goes(1), refused(api.ErrNone)},
		{drop(-1), refused(api.ErrNone)},
		{twice(1), refused(api.ErrNone)},
		{spoils(1, 0), refused(api.ErrNone)},
		{spoils(0, 96), refused(api.ErrRange)},
		{timer(3), refused(api.ErrNone)},
		{twice(0), none},
		{spoils(1, 95), none},
		{spoils(1, 95), refused(api.ErrFit)},
		{drop(1), none},
		{goes(0), none},
		{goes(0), one},
		{drop(1), refused(api.ErrNone)},
	}, want, did(1, api.OpStore, 0, 5, 0))
}

// Numbers that are far off are refused as any other ones.
func TestNumbersFarOff(t *testing.T) {
	c := api.Config{Cores: 1, Lines: 1}
	for _, n := range []int{math.MinInt, -1, 7, math.MaxInt} {
		plays(t, c, []asked{
			{api.Step{Kind: n}, refused(api.ErrKind)},
			{op(n, api.OpLoad, 0, 0), refused(api.ErrNone)},
			{op(0, n, 0, 0), refused(api.ErrKind)},
			{op(0, api.OpLoad, n, 0), refused(api.ErrRange)},
			{goes(n), refused(api.ErrNone)},
			{drop(n), refused(api.ErrNone)},
			{twice(n), refused(api.ErrNone)},
			{spoils(n, n), refused(api.ErrNone)},
			{timer(n), refused(api.ErrNone)},
		}, fresh(c))
	}
}

// A chip that goes through no steps is new.
func TestNoSteps(t *testing.T) {
	for cores := 1; cores <= api.MaxCores; cores++ {
		for lines := 1; lines <= api.MaxLines; lines++ {
			c := api.Config{Cores: cores, Lines: lines}
			plays(t, c, nil, fresh(c))
			x, answers, done, err := play.Steps(c, []api.Step{})
			if !same(x, fresh(c)) || len(answers)+len(done) != 0 || err != api.OK {
				t.Errorf("%v: %v, %v, %v, error %d", c, x, answers, done, err)
			}
		}
	}
}

// Too many cores or lines, or too few, are told ahead of too many steps; beside either nothing is told.
func TestErrors(t *testing.T) {
	numbers := []int{math.MinInt, -1, 0, 1, 4, 5, math.MaxInt}
	for _, cores := range numbers {
		for _, lines := range numbers {
			for _, many := range []int{0, 1, api.MaxSteps, api.MaxSteps + 1, 2 * api.MaxSteps} {
				want := api.OK
				if cores < 1 || cores > 4 || lines < 1 || lines > 4 {
					want = api.ErrRange
				} else if many > api.MaxSteps {
					want = api.ErrMany
				}
				l := slices.Repeat([]api.Step{op(0, api.OpEvict, 0, 0)}, many)
				x, answers, done, err := play.Steps(api.Config{Cores: cores, Lines: lines}, l)
				if err != want {
					t.Errorf("%d cores, %d lines, %d steps: error %d, want %d", cores, lines, many, err, want)
				}
				if err != api.OK && (!same(x, api.Chip{}) || len(answers)+len(done) != 0) {
					t.Errorf("%d cores, %d lines, %d steps: %v, %v, %v beside an error", cores, lines, many, x, answers, done)
				}
				if err == api.OK && (len(answers) != many || len(done) != many) {
					t.Errorf("%d cores, %d lines, %d steps: %d answers, %d done", cores, lines, many, len(answers), len(done))
				}
			}
		}
	}
}

// Steps that are refused count as any other ones.
func TestMaxStepsOfRefusedOnes(t *testing.T) {
	c := api.Config{Cores: 1, Lines: 1}
	l := make([]api.Step, api.MaxSteps+1)
	if _, _, _, err := play.Steps(c, l); err != api.ErrMany {
		t.Errorf("one too many: error %d", err)
	}
	x, answers, done, err := play.Steps(c, l[1:])
	if err != api.OK || !same(x, fresh(c)) || len(done) != 0 {
		t.Errorf("%v, %v, error %d", x, done, err)
	}
	if want := slices.Repeat([]api.Answer{refused(api.ErrKind)}, api.MaxSteps); !slices.Equal(answers, want) {
		t.Errorf("%v", answers)
	}
}

func TestOf(t *testing.T) {
	a, b, c := did(1, api.OpStore, 0, 5, 0), did(0, api.OpLoad, 0, 0, 5), did(1, api.OpLoad, 1, 0, 0)
	odd, far := did(-1, 9, -9, 900, -1), did(math.MaxInt, api.OpLoad, 0, 0, 0)
	l := []api.Done{a, odd, b, c, far, a}
	for _, w := range []struct {
		core int
		want []api.Done
	}{
		{0, []api.Done{b}},
		{1, []api.Done{a, c, a}}, // in turn, and one that is there twice comes twice
		{2, nil},
		{-1, []api.Done{odd}},
		{math.MaxInt, []api.Done{far}},
		{math.MinInt, nil},
	} {
		if got := play.Of(l, w.core); !slices.Equal(got, w.want) {
			t.Errorf("Of core %d: %v, want %v", w.core, got, w.want)
		}
		for _, nothing := range [][]api.Done{nil, {}} {
			if got := play.Of(nothing, w.core); len(got) != 0 {
				t.Errorf("Of nothing, core %d: %v", w.core, got)
			}
		}
	}
}
