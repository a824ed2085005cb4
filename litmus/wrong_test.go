package litmus_test

import (
	"math"
	"slices"
	"testing"

	"sharedhearth/api"
	"sharedhearth/litmus"
)

// has is that both calls have that error; and that nothing stands beside it, if it is one.
func has(t *testing.T, c api.Config, l [][]api.Op, want api.Errno) {
	t.Helper()
	if got := litmus.Wrong(c, l); got != want {
		t.Errorf("Wrong(%v, %v) = %d, want %d", c, l, got, want)
	}
	for _, picks := range [][]int{nil, {0, 8, 3}, make([]int, api.MaxSteps+1)} {
		wantRun := want
		if want == api.OK && len(picks) > api.MaxSteps {
			wantRun = api.ErrMany
		}
		x, done, err := litmus.Run(c, l, picks)
		if err != wantRun {
			t.Errorf("Run(%v, %v) of %d picks: error %d, want %d", c, l, len(picks), err, wantRun)
		}
		if err != api.OK && (!same(x, api.Chip{}) || len(done) != 0) {
			t.Errorf("Run(%v, %v) of %d picks: %v, %v beside an error", c, l, len(picks), x, done)
		}
	}
}

// How many cores and lines there are is told ahead of all else, then how many programs.
func TestWrongConfigs(t *testing.T) {
	numbers := []int{math.MinInt, -1, 0, 1, 2, 3, 4, 5, math.MaxInt}
	for _, cores := range numbers {
		for _, lines := range numbers {
			for many := range 7 {
				for _, program := range [][]api.Op{nil, {load(0)}, {{}}} {
					want := api.OK
					switch {
					case cores < 1 || cores > 4 || lines < 1 || lines > 4:
						want = api.ErrRange
					case many != cores:
						want = api.ErrMany
					case len(program) > 0 && program[0].Kind == 0:
						want = api.ErrKind
					}
					has(t, api.Config{Cores: cores, Lines: lines}, slices.Repeat([][]api.Op{program}, many), want)
				}
			}
		}
	}
}

func TestWrongOperations(t *testing.T) {
	for lines := 1; lines <= api.MaxLines; lines++ {
		c := api.Config{Cores: 2, Lines: lines}
		for _, kind := range []int{math.MinInt, -1, 0, 1, 2, 3, 4, 5, math.MaxInt} {
			for _, line := range []int{math.MinInt, -1, 0, lines - 1, lines, math.MaxInt} {
				for _, value := range []int{math.MinInt, -1, 0, 255, 256, math.MaxInt} {
					want := api.OK
					switch {
					case kind < 1 || kind > 4:
						want = api.ErrKind
					case line < 0 || line >= lines || value < 0 || value > 255:
						want = api.ErrRange
					}
					o := api.Op{Kind: kind, Line: line, Value: value}
					has(t, c, [][]api.Op{{o}, nil}, want)
					has(t, c, [][]api.Op{nil, {load(0), evict(0), o}}, want)
				}
			}
		}
	}
}

// A program may have MaxOps, not more; and with too many of them none is looked at.
func TestWrongLengths(t *testing.T) {
	c := api.Config{Cores: 2, Lines: 1}
	for n := range 2 * api.MaxOps {
		want := api.OK
		if n > api.MaxOps {
			want = api.ErrMany
		}
		l := slices.Repeat([]api.Op{add(0, 1)}, n)
		has(t, c, [][]api.Op{l, nil}, want)
		has(t, c, [][]api.Op{nil, l}, want)
		has(t, c, [][]api.Op{l, l}, want)
	}
	has(t, c, [][]api.Op{make([]api.Op, api.MaxOps), nil}, api.ErrKind)
	has(t, c, [][]api.Op{make([]api.Op, api.MaxOps+1), nil}, api.ErrMany)
	has(t, c, make([][]api.Op, 1<<20), api.ErrMany)
	has(t, c, [][]api.Op{nil, make([]api.Op, 1<<20)}, api.ErrMany)
}

// The first program with a fault tells it, and of that the first operation.
func TestFirstFault(t *testing.T) {
	c := api.Config{Cores: 3, Lines: 2}
	fine, long := []api.Op{load(1)}, make([]api.Op, api.MaxOps+1)
	kind, far := []api.Op{load(0), {Kind: 5}}, []api.Op{load(0), load(2)}
	for _, w := range []struct {
		l    [][]api.Op
		want api.Errno
	}{
		{[][]api.Op{fine, fine, fine}, api.OK},
		{[][]api.Op{kind, long, far}, api.ErrKind},
		{[][]api.Op{far, long, kind}, api.ErrRange},
		{[][]api.Op{long, kind, far}, api.ErrMany},
		{[][]api.Op{fine, far, long}, api.ErrRange},
		{[][]api.Op{fine, fine, long}, api.ErrMany},
		{[][]api.Op{nil, kind, far}, api.ErrKind},
		{[][]api.Op{{store(0, 256), {Kind: 5}}, nil, nil}, api.ErrRange},
		{[][]api.Op{{{Kind: 5}, store(0, 256)}, nil, nil}, api.ErrKind},
		{[][]api.Op{{{Kind: 5, Line: 2}}, nil, nil}, api.ErrKind},
		{[][]api.Op{long, far}, api.ErrMany},
		{[][]api.Op{kind, far}, api.ErrMany},
	} {
		has(t, c, w.l, w.want)
	}
}

// There may be MaxSteps picks, not more, also of such as do nothing.
func TestMaxStepsOfPicks(t *testing.T) {
	c := api.Config{Cores: 1, Lines: 1}
	for _, n := range []int{0, 1, api.MaxSteps - 1, api.MaxSteps, api.MaxSteps + 1, 2 * api.MaxSteps} {
		want := api.OK
		if n > api.MaxSteps {
			want = api.ErrMany
		}
		for _, l := range [][][]api.Op{{nil}, {{add(0, 1)}}} {
			if _, _, err := litmus.Run(c, l, make([]int, n)); err != want {
				t.Errorf("%d picks: error %d", n, err)
			}
		}
	}
}
