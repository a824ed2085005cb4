package play_test

import (
	"reflect"
	"slices"
	"testing"

	"sharedhearth/api"
	"sharedhearth/check"
	"sharedhearth/chip"
	"sharedhearth/flat"
	"sharedhearth/play"
)

// walk is steps of all kinds, in which frames that come are the most; some are refused.
type walk struct {
	config api.Config
	steps  []api.Step
	seed   uint32
}

// pick is a number below n, the same ones in turn for each seed.
func (w *walk) pick(n int) int {
	w.seed = w.seed*1664525 + 1013904223
	return int(w.seed>>16) % n
}

// someWalks are of chips of each kind, and as long as may be.
func someWalks() []*walk {
	var out []*walk
	for seed := range uint32(64) {
		w := &walk{config: api.Config{Cores: 1 + int(seed%4), Lines: 1 + int(seed/4%4)}, seed: seed}
		kinds := []int{0, api.StepOp, api.StepOp, api.StepOp, api.StepDrop, api.StepTwice, api.StepSpoil, api.StepTimer, api.StepTimer}
		for range 10 {
			kinds = append(kinds, api.StepGo)
		}
		for range api.MaxSteps {
			s := api.Step{Kind: kinds[w.pick(len(kinds))], Node: w.pick(w.config.Cores + 1), N: w.pick(3), Bit: w.pick(97)}
			s.Op = api.Op{Kind: 1 + w.pick(4), Line: w.pick(w.config.Lines), Value: w.pick(256)}
			w.steps = append(w.steps, s)
		}
		out = append(out, w)
	}
	return out
}

// Steps is New, and then Do of each step, but of those that are refused.
func TestStepsAreThoseOfChips(t *testing.T) {
	seen := map[api.Answer]int{}
	for _, w := range someWalks() {
		x, answers, done, err := play.Steps(w.config, w.steps)
		if err != api.OK || len(answers) != len(w.steps) {
			t.Fatalf("error %d, %d answers", err, len(answers))
		}
		y, _ := chip.New(w.config)
		var want []api.Done
		for i, s := range w.steps {
			next, did, err := chip.Do(y, s)
			if answers[i] != (api.Answer{Err: err, Done: len(did)}) {
				t.Fatalf("step %d, %v: %v, but error %d, done are %v", i, s, answers[i], err, did)
			}
			if err == api.OK {
				y, want = next, append(want, did...)
			}
			seen[answers[i]]++
		}
		if !same(x, y) || !slices.Equal(done, want) {
			t.Fatalf("%v, %v, want\n%v, %v", x, done, y, want)
		}
	}
	for _, a := range []api.Answer{none, one, refused(api.ErrKind), refused(api.ErrNone), refused(api.ErrFit), refused(api.ErrRange), refused(api.ErrBusy)} {
		if seen[a] == 0 {
			t.Errorf("no step was answered %v", a)
		}
	}
}

// Without those that are refused the rest has the same answers, and comes to the same.
func TestWithoutWhatIsRefused(t *testing.T) {
	for _, w := range someWalks() {
		x, answers, done, _ := play.Steps(w.config, w.steps)
		var steps []api.Step
		var want []api.Answer
		for i, a := range answers {
			if a.Err == api.OK {
				steps, want = append(steps, w.steps[i]), append(want, a)
			}
		}
		y, got, all, err := play.Steps(w.config, steps)
		if err != api.OK || !same(x, y) || !slices.Equal(got, want) || !slices.Equal(all, done) {
			t.Fatalf("%v, %v, %v, error %d, want\n%v, %v, %v", y, got, all, err, x, want, done)
		}
	}
}

// As if memory were one: all that is done, in turn; and nothing is ever wrong.
func TestAsIfMemoryWereOne(t *testing.T) {
	all := 0
	for _, w := range someWalks() {
		for n := 0; n <= len(w.steps); n += 20 {
			x, answers, done, _ := play.Steps(w.config, w.steps[:n])
			if _, at := flat.Play(w.config.Lines, done); at != -1 {
				t.Fatalf("operation %d of %v", at, done)
			}
			if check.Wrong(x) != api.OK {
				t.Fatalf("wrong: %v", x)
			}
			told := 0
			for _, a := range answers {
				told += a.Done
			}
			if told != len(done) {
				t.Fatalf("%d are told as done, and %d are", told, len(done))
			}
			all += told
		}
	}
	// Walks on which little is done would tell little.
	if all < 64*16*5 {
		t.Errorf("only %d operations are done", all)
	}
}

// began is the operations of that core that were not refused, in its own order.
func began(w *walk, answers []api.Answer, core int) []api.Op {
	var out []api.Op
	for i, s := range w.steps {
		if s.Kind == api.StepOp && s.Node == core && answers[i].Err == api.OK {
			out = append(out, s.Op)
		}
	}
	return out
}

// Each core in its own order: what it has done is what it began, but for the last one, if that waits still.
func TestEachCoreInItsOwnOrder(t *testing.T) {
	for _, w := range someWalks() {
		x, answers, done, _ := play.Steps(w.config, w.steps)
		parts := 0
		for core, c := range x.Cores {
			want := began(w, answers, core)
			if c.Wait.Kind != 0 {
				want = want[:len(want)-1]
			}
			var got []api.Op
			for _, d := range play.Of(done, core) {
				if d.Core != core {
					t.Fatalf("of core %d: %v", core, d)
				}
				got = append(got, d.Op)
			}
			if !slices.Equal(got, want) {
				t.Fatalf("core %d: done are %v, want %v", core, got, want)
			}
			parts += len(got)
		}
		if parts != len(done) || len(play.Of(done, len(x.Cores))) != 0 {
			t.Fatalf("%d of %v", parts, done)
		}
	}
}

func all[T any](l []T) []T { return l[:cap(l)] }

func spare[T any](l []T, v T) []T {
	return append(slices.Clip(l), v, v)[:len(l)]
}

func fill[T any](l []T, v T) {
	for i := range all(l) {
		all(l)[i] = v
	}
}

// scribble writes over all of x, its spare room too.
func scribble(x api.Chip) {
	for _, c := range all(x.Cores) {
		fill(c.Lines, api.Line{Value: 77, Serial: 77})
	}
	for _, e := range all(x.Home) {
		fill(e.Last, 77)
	}
	for _, b := range all(x.Frames) {
		fill(b, 77)
	}
	fill(x.Cores, api.Core{Wait: api.Op{Kind: 77}})
	fill(x.Home, api.Entry{Value: 77})
	fill(x.Frames, []byte{77})
}

// What is handed in is only read, its spare room not even looked at; what is answered is new each time, and the same.
func TestMemoryOfSteps(t *testing.T) {
	for _, w := range someWalks() {
		for _, n := range []int{0, 1, 150, 300} {
			in := spare(w.steps[:n:n], op(0, api.OpStore, 0, 66))
			before := slices.Clone(all(in))
			x, answers, done, _ := play.Steps(w.config, in)
			kept, keptAnswers, keptDone := plain(x), slices.Clone(answers), slices.Clone(done)
			if !slices.Equal(all(in), before) {
				t.Fatalf("what was handed in is changed: %v", all(in))
			}
			fill(in, api.Step{Kind: 77})
			if !same(x, kept) || !slices.Equal(answers, keptAnswers) || !slices.Equal(done, keptDone) {
				t.Fatalf("kept: %v, %v, %v", x, answers, done)
			}

			copy(all(in), before)
			scribble(x)
			fill(answers, api.Answer{Done: 77})
			fill(done, api.Done{Value: 77})
			if !slices.Equal(all(in), before) {
				t.Fatalf("an answer shares memory with what was handed in: %v", all(in))
			}
			y, again, doneAgain, _ := play.Steps(w.config, w.steps[:n])
			if !same(y, kept) || !slices.Equal(again, keptAnswers) || !slices.Equal(doneAgain, keptDone) {
				t.Fatalf("another answer: %v, %v, %v, not\n%v, %v, %v", y, again, doneAgain, kept, keptAnswers, keptDone)
			}
		}
	}
}

// No two lists of the chip that is answered share any memory.
func TestListsOfAChipAreApart(t *testing.T) {
	for _, w := range someWalks() {
		for _, n := range []int{0, 40, 300} {
			x, _, _, _ := play.Steps(w.config, w.steps[:n])
			want := plain(x)
			for i := range x.Cores {
				fill(x.Cores[i].Lines, api.Line{Value: 77})
				x.Cores[i].Lines = want.Cores[i].Lines
			}
			for i := range x.Home {
				fill(x.Home[i].Last, 77)
				x.Home[i].Last = want.Home[i].Last
			}
			for i := range x.Frames {
				fill(x.Frames[i], 77)
				x.Frames[i] = want.Frames[i]
			}
			if !reflect.DeepEqual(plain(x), want) {
				t.Fatalf("lists are not apart: %v", x)
			}
		}
	}
}

// Of only reads, and answers new memory, also where it answers all, or one run of it.
func TestMemoryOfOf(t *testing.T) {
	a, b := did(0, api.OpStore, 0, 5, 0), did(1, api.OpLoad, 0, 0, 5)
	for _, l := range [][]api.Done{nil, {a}, {a, a, a}, {a, a, b}, {b, a, a}, {a, b, a}} {
		in := spare(slices.Clone(l), a)
		before := slices.Clone(all(in))
		out := play.Of(in, 0)
		want := slices.DeleteFunc(slices.Clone(l), func(d api.Done) bool { return d.Core != 0 })
		if !slices.Equal(out, want) || !slices.Equal(all(in), before) {
			t.Fatalf("Of %v: %v; what was handed in is %v", l, out, all(in))
		}
		fill(in, did(0, 77, 77, 77, 77))
		if !slices.Equal(out, want) {
			t.Fatalf("kept: %v", out)
		}
		copy(all(in), before)
		fill(out, did(0, 78, 78, 78, 78))
		if !slices.Equal(all(in), before) {
			t.Fatalf("an answer shares memory with what was handed in: %v", all(in))
		}
	}
}
