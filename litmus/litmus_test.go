package litmus_test

import (
	"math"
	"reflect"
	"slices"
	"testing"

	"sharedhearth/api"
	"sharedhearth/chip"
	"sharedhearth/litmus"
	"sharedhearth/play"
	"sharedhearth/round"
)

func load(line int) api.Op         { return api.Op{Kind: api.OpLoad, Line: line} }
func store(line, value int) api.Op { return api.Op{Kind: api.OpStore, Line: line, Value: value} }
func add(line, value int) api.Op   { return api.Op{Kind: api.OpAdd, Line: line, Value: value} }
func evict(line int) api.Op        { return api.Op{Kind: api.OpEvict, Line: line} }

func begins(core int, o api.Op) api.Step { return api.Step{Kind: api.StepOp, Node: core, Op: o} }
func goes(n int) api.Step                { return api.Step{Kind: api.StepGo, N: n} }
func drop(n int) api.Step                { return api.Step{Kind: api.StepDrop, N: n} }
func twice(n int) api.Step               { return api.Step{Kind: api.StepTwice, N: n} }
func timer(node int) api.Step            { return api.Step{Kind: api.StepTimer, Node: node} }

// did is what a core has done.
func did(core int, o api.Op, told int) api.Done {
	return api.Done{Core: core, Op: o, Value: told}
}

// pick is one of that kind, and WHICH.
func pick(kind, which int) int { return 8*which + kind }

// plain is x with nil for each list that has no entries: the document holds both for the same.
func plain(x api.Chip) api.Chip {
	var out api.Chip
	for _, c := range x.Cores {
		out.Cores = append(out.Cores, api.Core{Lines: append([]api.Line(nil), c.Lines...), Wait: c.Wait})
	}
	for _, e := range x.Home {
		e.Last = append([]int(nil), e.Last...)
		out.Home = append(out.Home, e)
	}
	for _, b := range x.Frames {
		out.Frames = append(out.Frames, append([]byte(nil), b...))
	}
	return out
}

func same(x, y api.Chip) bool {
	return reflect.DeepEqual(plain(x), plain(y))
}

// made is a new chip.
func made(t *testing.T, c api.Config) api.Chip {
	t.Helper()
	x, err := chip.New(c)
	if err != api.OK {
		t.Fatalf("New of %v: error %d", c, err)
	}
	return x
}

// finished is x behind all that is left, core by core.
func finished(t *testing.T, x api.Chip, left [][]api.Op) (api.Chip, []api.Done) {
	t.Helper()
	var all []api.Done
	for core, l := range left {
		y, done, _ := round.Settle(x)
		x, all = y, append(all, done...)
		for _, o := range l {
			y, now, err := chip.Do(x, begins(core, o))
			if err != api.OK {
				t.Fatalf("core %d, %v: error %d", core, o, err)
			}
			z, later, _ := round.Settle(y)
			x, all = z, append(append(all, now...), later...)
		}
	}
	return x, all
}

// goesThrough is that the picks are just those steps, none of which is refused; and that what the programs have left comes behind them.
func goesThrough(t *testing.T, name string, c api.Config, l [][]api.Op, picks []int, steps []api.Step) {
	t.Helper()
	x, answers, want, _ := play.Steps(c, steps)
	left := slices.Clone(l)
	for i, s := range steps {
		if answers[i].Err != api.OK {
			t.Fatalf("%s: step %d, %v, is refused: %v", name, i, s, answers[i])
		}
		if s.Kind == api.StepOp {
			left[s.Node] = left[s.Node][1:]
		}
	}
	y, more := finished(t, x, left)
	want = append(want, more...)
	got, done, err := litmus.Run(c, l, picks)
	if err != api.OK || !same(got, y) || !slices.Equal(done, want) {
		t.Errorf("%s: %v, done are %v, error %d, want\n%v, %v", name, got, done, err, y, want)
	}
}

var three = api.Config{Cores: 3, Lines: 1}

// sides is programs whose answers tell who was first.
func sides() [][]api.Op {
	return [][]api.Op{{add(0, 1), store(0, 10)}, {add(0, 2), add(0, 20)}, {add(0, 4), load(0)}}
}

func TestPicksThatBegin(t *testing.T) {
	l := sides()
	for kind := range 3 {
		for which := range 9 {
			picks := []int{pick(kind, which)}
			goesThrough(t, "one", three, l, picks, []api.Step{begins(which%3, l[which%3][0])})
		}
		picks := []int{pick(kind, 8), pick(kind, 3), pick(kind, 1)}
		goesThrough(t, "all", three, l, picks, []api.Step{begins(2, l[2][0]), begins(0, l[0][0]), begins(1, l[1][0])})
	}
}

// A core that is asked twice has not begun more than one: the next one stays the next one.
func TestWhatIsRefusedStaysNext(t *testing.T) {
	l := [][]api.Op{{store(0, 3), add(0, 4), evict(0)}, {load(0)}}
	c := api.Config{Cores: 2, Lines: 1}
	picks := []int{pick(0, 0), pick(1, 0), pick(2, 0), pick(3, 0), pick(0, 0), pick(3, 0), pick(0, 0), pick(0, 0)}
	steps := []api.Step{begins(0, l[0][0]), goes(0), goes(0), begins(0, l[0][1]), begins(0, l[0][2])}
	goesThrough(t, "refused", c, l, picks, steps)
}

// Of a core whose program has nothing left nothing is done: also no node asks again.
func TestNothingLeftToBegin(t *testing.T) {
	l := [][]api.Op{{store(0, 3)}, nil, {load(0)}}
	for kind := range 3 {
		// 4 is core 1, but node 0: if that asked again, it would be ahead of core 2.
		picks := []int{pick(0, 0), pick(6, 0), pick(kind, 4), pick(kind, 2)}
		steps := []api.Step{begins(0, l[0][0]), drop(0), begins(2, l[2][0])}
		goesThrough(t, "nothing left", three, l, picks, steps)
	}
	picks := []int{pick(0, 2), pick(6, 0), pick(0, 6), pick(0, 2), pick(0, 0)}
	goesThrough(t, "all begun", three, l, picks, []api.Step{begins(2, l[2][0]), drop(0), begins(0, l[0][0])})
}

// On the way are three frames, of a core each: which one comes first is to be seen in what is told.
func TestPicksOfFrames(t *testing.T) {
	l := sides()
	begun := []int{pick(0, 0), pick(0, 1), pick(0, 2)}
	first := []api.Step{begins(0, l[0][0]), begins(1, l[1][0]), begins(2, l[2][0])}
	told := map[int]bool{}
	for which := range 12 {
		for kind := 3; kind <= 5; kind++ {
			picks := append(slices.Clone(begun), pick(kind, which))
			goesThrough(t, "go", three, l, picks, append(slices.Clone(first), goes(which%3)))
			_, done, _ := litmus.Run(three, l, picks)
			told[done[0].Core] = true
		}
		mishap := drop(which / 2 % 3)
		if which%2 == 1 {
			mishap = twice(which / 2 % 3)
		}
		// WHICH 3 is frame 3 only if one is there twice; if one is lost it is frame 1.
		picks := append(slices.Clone(begun), pick(6, which), pick(3, 3), pick(6, 2), pick(7, 3), pick(4, 1))
		steps := append(slices.Clone(first), mishap)
		if mishap.Kind == api.StepTwice {
			steps = append(steps, goes(3))
		} else {
			steps = append(steps, goes(1))
		}
		goesThrough(t, "mishap", three, l, picks, behind(t, steps, 2))
	}
	if len(told) != 3 {
		t.Errorf("first are only %v", told)
	}
}

// behind is steps, the drop of frame 1, the home's timer, and that frame 1 comes: of as many frames as are there by then.
func behind(t *testing.T, steps []api.Step, which int) []api.Step {
	t.Helper()
	x, _, _, _ := play.Steps(three, steps)
	steps = append(steps, drop(which/2%len(x.Frames)), timer(3))
	x, _, _, _ = play.Steps(three, steps)
	return append(steps, goes(1%len(x.Frames)))
}

// Where nothing is on the way, none can come or be lost: a node asks again. Kind 7 is always that.
func TestPicksOfTimers(t *testing.T) {
	l := [][]api.Op{{store(0, 3)}, {add(0, 5)}, {load(0)}}
	begun := []int{pick(0, 0), pick(6, 0), pick(0, 1), pick(6, 0), pick(0, 2)}
	first := []api.Step{begins(0, l[0][0]), drop(0), begins(1, l[1][0]), drop(0), begins(2, l[2][0])}
	told := map[int]bool{}
	for which := range 12 {
		picks := append(slices.Clone(begun), pick(7, which))
		goesThrough(t, "with one on the way", three, l, picks, append(slices.Clone(first), timer(which%4)))
		for kind := 3; kind <= 7; kind++ {
			picks := append(slices.Clone(begun), pick(6, 0), pick(kind, which))
			goesThrough(t, "with none on the way", three, l, picks, append(slices.Clone(first), drop(0), timer(which%4)))
			_, done, _ := litmus.Run(three, l, picks)
			told[done[0].Core] = true
		}
	}
	if len(told) != 3 {
		t.Errorf("first are only %v", told)
	}
	// The home says again what was lost; then there are two of it, of which one is lost.
	picks := []int{pick(0, 0), pick(3, 0), pick(6, 0), pick(5, 3), pick(7, 7), pick(6, 2), pick(0, 1)}
	steps := []api.Step{begins(0, l[0][0]), goes(0), drop(0), timer(3), timer(3), drop(1), begins(1, l[1][0])}
	goesThrough(t, "the home", three, l, picks, steps)
}

// Of a pick only the lowest 16 bits are looked at, also below 0.
func TestLowestBits(t *testing.T) {
	l := sides()
	picks := []int{pick(0, 1), pick(1, 0), pick(2, 2), pick(3, 1), pick(6, 2), pick(6, 5), pick(7, 1), pick(4, 7)}
	x, done, err := litmus.Run(three, l, picks)
	if err != api.OK {
		t.Fatalf("error %d", err)
	}
	for _, more := range []int{-1 << 16, 1 << 16, 5 << 16, -7 << 16, 1 << 40, math.MinInt, math.MaxInt - 0xffff} {
		other := slices.Clone(picks)
		for i := range other {
			other[i] += more
		}
		y, again, err := litmus.Run(three, l, other)
		if err != api.OK || !same(x, y) || !slices.Equal(done, again) {
			t.Errorf("%d more: %v, %v, error %d, want\n%v, %v", more, y, again, err, x, done)
		}
	}

	// The lowest bits of -1 are 65535: kind 7, and 8191, which is node 3: the home. The highest WHICH is core 1.
	begun := []api.Step{begins(0, l[0][0]), goes(0), drop(0)}
	for _, n := range []int{-1, 65535, math.MaxInt} {
		goesThrough(t, "all bits", three, l, []int{0, 3, 6, n}, append(slices.Clone(begun), timer(3)))
	}
	for _, n := range []int{-8, 65528, math.MaxInt - 7} {
		goesThrough(t, "begin", three, l, []int{n}, []api.Step{begins(1, l[1][0])})
	}
	for _, n := range []int{0, 65536, math.MinInt} {
		goesThrough(t, "no bits", three, l, []int{n}, []api.Step{begins(0, l[0][0])})
	}
}

// Without picks, one core after another has its program done.
func TestCoreByCore(t *testing.T) {
	l := [][]api.Op{{store(0, 200), add(0, 100), evict(0)}, {load(0), load(1)}, {}}
	x, done, err := litmus.Run(api.Config{Cores: 3, Lines: 2}, l, nil)
	want := []api.Done{did(0, l[0][0], 0), did(0, l[0][1], 200), did(0, l[0][2], 0), did(1, l[1][0], 44), did(1, l[1][1], 0)}
	if err != api.OK || !slices.Equal(done, want) {
		t.Errorf("done are %v, error %d", done, err)
	}
	y := made(t, api.Config{Cores: 3, Lines: 2})
	y.Cores[0].Lines[0] = api.Line{Serial: 2, Seen: 1}
	y.Cores[1].Lines[0] = api.Line{State: api.Copy, Value: 44, Serial: 1, Seen: 2}
	y.Cores[1].Lines[1] = api.Line{State: api.Copy, Serial: 1, Seen: 1}
	y.Home[0] = api.Entry{Value: 44, Owner: -1, Sharers: 2, Turn: 2, Last: []int{2, 1, 0}}
	y.Home[1] = api.Entry{Owner: -1, Sharers: 2, Turn: 1, Last: []int{0, 1, 0}}
	if !same(x, y) {
		t.Errorf("%v, want\n%v", x, y)
	}
}

// What waits behind the picks is done first, then what is left of the first core's program, and so on.
func TestWhatIsLeft(t *testing.T) {
	l := sides()
	_, done, err := litmus.Run(three, l, []int{pick(0, 2), pick(0, 1)})
	want := []api.Done{did(2, l[2][0], 0), did(1, l[1][0], 4), did(0, l[0][0], 6), did(0, l[0][1], 0), did(1, l[1][1], 10), did(2, l[2][1], 30)}
	if err != api.OK || !slices.Equal(done, want) {
		t.Errorf("done are %v, error %d, want %v", done, err, want)
	}
}

// A chip whose programs have no operations stays new, whatever is picked.
func TestEmptyPrograms(t *testing.T) {
	var picks []int
	for n := range api.MaxSteps {
		picks = append(picks, n)
	}
	for cores := 1; cores <= api.MaxCores; cores++ {
		for lines := 1; lines <= api.MaxLines; lines++ {
			c := api.Config{Cores: cores, Lines: lines}
			empty := slices.Repeat([][]api.Op{{}}, cores)
			for _, l := range [][][]api.Op{make([][]api.Op, cores), empty} {
				for _, p := range [][]int{nil, {}, picks} {
					x, done, err := litmus.Run(c, l, p)
					if err != api.OK || len(done) != 0 || !same(x, made(t, c)) {
						t.Errorf("%v: %v, %v, error %d", c, x, done, err)
					}
				}
			}
		}
	}
}
