package litmus_test

import (
	"reflect"
	"slices"
	"testing"

	"sharedhearth/api"
	"sharedhearth/check"
	"sharedhearth/chip"
	"sharedhearth/flat"
	"sharedhearth/litmus"
	"sharedhearth/play"
)

// walk is programs, and how they go on.
type walk struct {
	config   api.Config
	programs [][]api.Op
	picks    []int
	seed     uint32
}

// draw is a number below n, the same ones in turn for each seed.
func (w *walk) draw(n int) int {
	w.seed = w.seed*1664525 + 1013904223
	return int(w.seed>>16) % n
}

// lots are picks of all kinds: evenly, or crowded with what is there twice, and said again, or mostly with what comes.
func (w *walk) lots(n int) []int {
	kinds := []int{0, 1, 2, 3, 4, 5, 6, 7}
	switch w.draw(3) {
	case 1:
		kinds = append(kinds, 6, 6, 6, 7, 7, 7, 7, 7)
	case 2:
		kinds = append(kinds, 3, 4, 5, 3, 4, 5, 3, 4, 5)
	}
	var out []int
	for range n {
		out = append(out, pick(kinds[w.draw(len(kinds))], w.draw(8192))-65536*w.draw(3)+65536)
	}
	return out
}

// someWalks are of chips of each kind, with programs of up to MaxOps, and up to MaxSteps picks.
func someWalks() []*walk {
	var out []*walk
	for seed := range uint32(240) {
		w := &walk{config: api.Config{Cores: 1 + int(seed%4), Lines: 1 + int(seed/4%4)}, seed: seed}
		for range w.config.Cores {
			var l []api.Op
			for range w.draw(api.MaxOps + 1) {
				l = append(l, api.Op{Kind: 1 + w.draw(4), Line: w.draw(w.config.Lines), Value: w.draw(256)})
			}
			w.programs = append(w.programs, l)
		}
		w.picks = w.lots([]int{10, 40, 120, api.MaxSteps}[w.draw(4)])
		out = append(out, w)
	}
	return out
}

// step is what a pick comes to, said another way than the program does; began are how many operations each core has.
func step(x api.Chip, l [][]api.Op, began []int, n int) (api.Step, bool) {
	low := ((n % 65536) + 65536) % 65536
	which, frames, cores := low>>3, len(x.Frames), len(x.Cores)
	again := api.Step{Kind: api.StepTimer, Node: which % (cores + 1)}
	switch rest := low & 7; rest {
	case 0, 1, 2:
		core := which % cores
		if began[core] == len(l[core]) {
			return api.Step{}, false
		}
		return begins(core, l[core][began[core]]), true
	case 7:
		return again, true
	default:
		switch {
		case frames == 0:
			return again, true
		case rest < 6:
			return goes(which % frames), true
		case which&1 == 0:
			return drop(which >> 1 % frames), true
		}
		return twice(which >> 1 % frames), true
	}
}

// Run is New, then Do of what each pick comes to, and then what is left.
func TestRunIsThoseSteps(t *testing.T) {
	kinds, refused, nothing := map[int]int{}, 0, 0
	for _, w := range someWalks() {
		x, began, want := made(t, w.config), make([]int, w.config.Cores), []api.Done(nil)
		for _, n := range w.picks {
			s, ok := step(x, w.programs, began, n)
			if !ok {
				nothing++
				continue
			}
			y, done, err := chip.Do(x, s)
			if err != api.OK {
				refused++
				continue
			}
			if s.Kind == api.StepOp {
				began[s.Node]++
			}
			kinds[s.Kind]++
			x, want = y, append(want, done...)
		}
		var left [][]api.Op
		for core, l := range w.programs {
			left = append(left, l[began[core]:])
		}
		x, done := finished(t, x, left)
		want = append(want, done...)
		got, all, err := litmus.Run(w.config, w.programs, w.picks)
		if err != api.OK || !same(got, x) || !slices.Equal(all, want) {
			t.Fatalf("%v, %v, %v: %v, %v, error %d, want\n%v, %v", w.config, w.programs, w.picks, got, all, err, x, want)
		}
	}
	for _, kind := range []int{api.StepOp, api.StepGo, api.StepDrop, api.StepTwice, api.StepTimer} {
		if kinds[kind] < 500 {
			t.Errorf("only %d steps of kind %d", kinds[kind], kind)
		}
	}
	if refused < 500 || nothing < 500 {
		t.Errorf("only %d operations are refused, %d picks do nothing", refused, nothing)
	}
}

// ends is that all programs are done, each core in its own order, as if memory were one; and that the chip behind it is calm, and as it must be.
func ends(t *testing.T, w *walk) []api.Done {
	t.Helper()
	x, done, err := litmus.Run(w.config, w.programs, w.picks)
	if err != api.OK {
		t.Fatalf("error %d", err)
	}
	for core, l := range w.programs {
		var got []api.Op
		for _, d := range play.Of(done, core) {
			got = append(got, d.Op)
		}
		if !slices.Equal(got, l) {
			t.Fatalf("core %d: done are %v, want %v", core, got, l)
		}
	}
	memory, at := flat.Play(w.config.Lines, done)
	if at != -1 || !check.Calm(x) || check.Wrong(x) != api.OK {
		t.Fatalf("%v, operation %d of %v", x, at, done)
	}
	for line, v := range memory {
		if check.Value(x, line) != v {
			t.Fatalf("line %d is %d, not %d: %v", line, check.Value(x, line), v, x)
		}
	}
	return done
}

func TestAllProgramsEnd(t *testing.T) {
	for _, w := range someWalks() {
		ends(t, w)
	}
}

// No add is lost: each one tells another number, and the last line is all of them.
func TestNoAddIsLost(t *testing.T) {
	for seed := range uint32(80) {
		w := &walk{config: api.Config{Cores: 1 + int(seed%4), Lines: 1}, seed: seed}
		l := slices.Repeat([]api.Op{add(0, 1)}, api.MaxOps)
		w.programs = slices.Repeat([][]api.Op{l}, w.config.Cores)
		w.picks = w.lots(100)
		for n, d := range ends(t, w) {
			if d.Value != n {
				t.Fatalf("the add behind %d others tells %d", n, d.Value)
			}
		}
	}
}

// everyPick is those that two cores can go on by, with the first two frames.
func everyPick() []int {
	return []int{pick(0, 0), pick(0, 1), pick(3, 0), pick(3, 1), pick(6, 0), pick(6, 1), pick(6, 2), pick(7, 0), pick(7, 1), pick(7, 2)}
}

// outcomes is what the loads tell, core by core: in all runs of three picks behind those, and in many long ones.
func outcomes(t *testing.T, programs [][]api.Op, begun ...int) map[[2]int]int {
	t.Helper()
	w := &walk{config: api.Config{Cores: 2, Lines: 2}, programs: programs}
	var runs [][]int
	for _, a := range everyPick() {
		for _, b := range everyPick() {
			for _, c := range everyPick() {
				runs = append(runs, append(slices.Clone(begun), a, b, c))
			}
		}
	}
	for range 1000 {
		runs = append(runs, w.lots(60))
	}
	out := map[[2]int]int{}
	for _, w.picks = range runs {
		out[loaded(ends(t, w))]++
	}
	return out
}

// loaded is what the two loads tell, core by core.
func loaded(done []api.Done) [2]int {
	var out []int
	for core := range 2 {
		for _, d := range play.Of(done, core) {
			if d.Op.Kind == api.OpLoad {
				out = append(out, d.Value)
			}
		}
	}
	return [2]int(out)
}

// Who sees the flag sees what is behind it.
func TestFlag(t *testing.T) {
	got := outcomes(t, [][]api.Op{{store(0, 1), store(1, 1)}, {load(1), load(0)}}, pick(0, 0), pick(0, 1))
	if got[[2]int{1, 0}] != 0 {
		t.Errorf("the flag is seen, and not what is behind it: %v", got)
	}
	if got[[2]int{0, 0}] == 0 || got[[2]int{0, 1}] == 0 || got[[2]int{1, 1}] == 0 {
		t.Errorf("not all that may come to be does: %v", got)
	}
}

// Of two cores that store, and then look at the other one's line, one sees what the other one stored.
func TestOneIsFirst(t *testing.T) {
	got := outcomes(t, [][]api.Op{{store(0, 1), load(1)}, {store(1, 1), load(0)}}, pick(0, 0), pick(0, 1))
	if got[[2]int{0, 0}] != 0 {
		t.Errorf("neither is first: %v", got)
	}
	if got[[2]int{0, 1}] == 0 || got[[2]int{1, 0}] == 0 || got[[2]int{1, 1}] == 0 {
		t.Errorf("not all that may come to be does: %v", got)
	}
}

// What a core sees of a line does not go back.
func TestNothingGoesBack(t *testing.T) {
	got := outcomes(t, [][]api.Op{{store(0, 1)}, {load(0), load(0)}}, pick(0, 0), pick(0, 1))
	if got[[2]int{1, 0}] != 0 {
		t.Errorf("it goes back: %v", got)
	}
	if got[[2]int{0, 0}] == 0 || got[[2]int{0, 1}] == 0 || got[[2]int{1, 1}] == 0 {
		t.Errorf("not all that may come to be does: %v", got)
	}
}

// Two cores add 1 each: one tells 0, the other one 1.
func TestTwoAdds(t *testing.T) {
	l := [][]api.Op{{add(0, 1)}, {add(0, 1)}}
	for first := range 2 {
		_, done, err := litmus.Run(api.Config{Cores: 2, Lines: 1}, l, []int{pick(0, first), pick(0, 1-first)})
		if want := []api.Done{did(first, l[0][0], 0), did(1-first, l[0][0], 1)}; err != api.OK || !slices.Equal(done, want) {
			t.Errorf("core %d first: %v, error %d", first, done, err)
		}
	}
}

func all[T any](l []T) []T { return l[:cap(l)] }

func spare[T any](l []T, v T) []T {
	return append(slices.Clip(l), v, v)[:len(l)]
}

func fill[T any](l []T, v T) {
	for i := range all(l) {
		all(l)[i] = v
	}
}

// roomy is programs with spare room behind each of them, and behind their list.
func roomy(l [][]api.Op) [][]api.Op {
	var out [][]api.Op
	for _, program := range l {
		out = append(out, spare(slices.Clone(program), api.Op{Kind: 66}))
	}
	return spare(out, []api.Op{{Kind: 66}})
}

// whole is a copy of l with its spare room.
func whole(l [][]api.Op) [][]api.Op {
	var out [][]api.Op
	for _, program := range all(l) {
		out = append(out, slices.Clone(all(program)))
	}
	return out
}

// scribble writes over all of x, its spare room too.
func scribble(x api.Chip) {
	for _, c := range all(x.Cores) {
		fill(c.Lines, api.Line{Value: 77, Serial: 77})
	}
	for _, e := range all(x.Home) {
		fill(e.Last, 77)
	}
	for _, b := range all(x.Frames) {
		fill(b, 77)
	}
	fill(x.Cores, api.Core{Wait: api.Op{Kind: 77}})
	fill(x.Home, api.Entry{Value: 77})
	fill(x.Frames, []byte{77})
}

// What is handed in is only read, its spare room not even looked at; what is answered is new each time, and the same.
func TestMemory(t *testing.T) {
	for _, w := range someWalks() {
		programs, picks := roomy(w.programs), spare(slices.Clone(w.picks), 66)
		before, picksBefore := whole(programs), slices.Clone(all(picks))
		unchanged := func(what string) {
			if !reflect.DeepEqual(whole(programs), before) || !slices.Equal(all(picks), picksBefore) {
				t.Fatalf("%s: what was handed in is changed: %v, %v", what, programs, picks)
			}
		}
		if err := litmus.Wrong(w.config, programs); err != api.OK {
			t.Fatalf("error %d", err)
		}
		unchanged("Wrong")
		x, done, err := litmus.Run(w.config, programs, picks)
		kept, keptDone := plain(x), slices.Clone(done)
		unchanged("Run")
		scribble(x)
		fill(done, api.Done{Value: 77})
		unchanged("what is answered is written over")

		y, again, errAgain := litmus.Run(w.config, programs, picks)
		if !same(y, kept) || !slices.Equal(again, keptDone) || err != api.OK || errAgain != api.OK {
			t.Fatalf("another answer: %v, %v, error %d, not\n%v, %v", y, again, errAgain, kept, keptDone)
		}
		for _, program := range all(programs) {
			fill(program, api.Op{Kind: 78})
		}
		fill(programs, nil)
		fill(picks, 78)
		if !same(y, kept) || !slices.Equal(again, keptDone) {
			t.Fatalf("kept: %v, %v", y, again)
		}
	}
}
