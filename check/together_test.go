package check_test

import (
	"fmt"
	"testing"

	"sharedhearth/api"
	"sharedhearth/check"
	"sharedhearth/chip"
	"sharedhearth/flat"
)

// walk is a chip that goes through steps, and memory that is one, on which the same is done.
type walk struct {
	t      *testing.T
	chip   api.Chip
	memory []int
	done   int
	seed   uint32
}

func newWalk(t *testing.T, cores, lines int, seed uint32) *walk {
	t.Helper()
	return &walk{t: t, chip: made(t, cores, lines), memory: flat.New(lines), seed: seed}
}

// pick is a number below n, the same ones in turn for each seed.
func (w *walk) pick(n int) int {
	w.seed = w.seed*1664525 + 1013904223
	return int(w.seed>>16) % n
}

// do goes on only if the step is not refused.
func (w *walk) do(s api.Step) {
	w.t.Helper()
	x, done, err := chip.Do(w.chip, s)
	if err != api.OK {
		return
	}
	w.chip = x
	for _, d := range done {
		m, told, err := flat.Do(w.memory, d.Op)
		if err != api.OK || told != d.Value {
			w.t.Fatalf("%v: memory that is one tells %d, error %d", d, told, err)
		}
		w.memory = m
		w.done++
	}
}

// step is one of all that may come to be; frames that come are the most.
func (w *walk) step() {
	s := api.Step{Node: w.pick(len(w.chip.Cores) + 1), N: w.pick(len(w.chip.Frames) + 1), Bit: w.pick(97)}
	s.Op = api.Op{Kind: 1 + w.pick(4), Line: w.pick(len(w.chip.Home)), Value: w.pick(256)}
	others := []int{api.StepOp, api.StepOp, api.StepOp, api.StepDrop, api.StepTwice, api.StepSpoil, api.StepTimer, api.StepTimer}
	s.Kind = api.StepGo
	if n := w.pick(2 * len(others)); n < len(others) {
		s.Kind = others[n]
	}
	w.do(s)
}

// someChips are those that long walks come by.
func someChips(t *testing.T) []api.Chip {
	var out []api.Chip
	for seed := range uint32(24) {
		w := newWalk(t, 1+int(seed%4), 1+int(seed/6), seed)
		for i := range 200 {
			w.step()
			if i%10 == 0 {
				out = append(out, w.chip)
			}
		}
	}
	return out
}

// sound is what must hold of each chip that steps make.
func sound(x api.Chip) bool {
	return check.Alone(x) && check.Same(x) && check.Known(x) && check.Wrong(x) == api.OK
}

// Nothing is ever wrong, and no line's value is lost: at each moment it is what memory that is one has, wherever it is kept.
func TestChipsThatStepsMake(t *testing.T) {
	done, spoilt := 0, 0
	for seed := range uint32(160) {
		w := newWalk(t, 1+int(seed%4), 1+int(seed/4%4), seed)
		for i := range 400 {
			w.step()
			if !sound(w.chip) {
				t.Fatalf("seed %d, step %d: %v", seed, i, w.chip)
			}
			for at, want := range w.memory {
				if got := check.Value(w.chip, at); got != want {
					t.Fatalf("seed %d, step %d: line %d is %d, not %d: %v", seed, i, at, got, want, w.chip)
				}
			}
			spoilt += check.Spoilt(w.chip)
		}
		done += w.done
	}
	// Walks on which little happens would tell little.
	if done < 160*15 || spoilt == 0 {
		t.Errorf("only %d operations are done, and %d frames seen spoilt", done, spoilt)
	}
}

// A chip is calm just when there is nothing left to do, and it comes to that if nothing is lost any more.
func TestCalmAtLast(t *testing.T) {
	for seed := range uint32(40) {
		w := newWalk(t, 1+int(seed%4), 1+int(seed/4%4), seed)
		for range 100 {
			w.step()
		}
		for range 100 {
			for len(w.chip.Frames) > 0 {
				if check.Calm(w.chip) {
					t.Fatalf("seed %d: calm, with frames on the way", seed)
				}
				w.do(api.Step{Kind: api.StepGo})
			}
			if check.Calm(w.chip) {
				break
			}
			for node := range len(w.chip.Cores) + 1 {
				w.do(api.Step{Kind: api.StepTimer, Node: node})
			}
		}
		if !check.Calm(w.chip) {
			t.Fatalf("seed %d: never calm: %v", seed, w.chip)
		}
		// No node of a calm chip has anything to ask.
		for node := range len(w.chip.Cores) + 1 {
			w.do(api.Step{Kind: api.StepTimer, Node: node})
		}
		tells(t, "asked by a calm chip", len(w.chip.Frames), 0)
	}
}

// nextSteps are those that x may take, with losses; but no frame is there twice, and no node asks again, while three or more are on the way: there would be too many chips.
func nextSteps(x api.Chip, ops []api.Op) []api.Step {
	var out []api.Step
	for core := range x.Cores {
		for _, o := range ops {
			out = append(out, api.Step{Kind: api.StepOp, Node: core, Op: o})
		}
	}
	for n := range x.Frames {
		out = append(out, api.Step{Kind: api.StepGo, N: n}, api.Step{Kind: api.StepDrop, N: n})
		if len(x.Frames) < 3 {
			out = append(out, api.Step{Kind: api.StepTwice, N: n})
		}
	}
	for node := 0; node <= len(x.Cores) && len(x.Frames) < 3; node++ {
		out = append(out, api.Step{Kind: api.StepTimer, Node: node})
	}
	return out
}

// All chips that nine of nextSteps make, not only those that walks come by.
func TestAllChipsNearby(t *testing.T) {
	ops := []api.Op{{Kind: api.OpLoad}, {Kind: api.OpAdd, Value: 1}, {Kind: api.OpEvict}}
	seen := map[string]bool{}
	near := []api.Chip{made(t, 2, 1)}
	for range 9 {
		var next []api.Chip
		for _, x := range near {
			for _, s := range nextSteps(x, ops) {
				y, _, err := chip.Do(x, s)
				key := fmt.Sprint(y)
				if err != api.OK || seen[key] {
					continue
				}
				seen[key] = true
				if !sound(y) {
					t.Fatalf("%v makes %v", s, y)
				}
				next = append(next, y)
			}
		}
		near = next
	}
	if len(seen) < 10000 {
		t.Errorf("only %d chips", len(seen))
	}
}

// A chip's line step by step: whoever has it, whatever is on the way.
func TestValueStepByStep(t *testing.T) {
	w := newWalk(t, 2, 1, 0)
	step := func(s api.Step, want int, calm bool) {
		t.Helper()
		w.do(s)
		tells(t, "Value", check.Value(w.chip, 0), want)
		tells(t, "Calm", check.Calm(w.chip), calm)
		if !sound(w.chip) {
			t.Errorf("%v", w.chip)
		}
	}
	op := func(node, kind, value int) api.Step {
		return api.Step{Kind: api.StepOp, Node: node, Op: api.Op{Kind: kind, Value: value}}
	}
	goes := api.Step{Kind: api.StepGo}
	step(op(0, api.OpStore, 7), 0, false)
	step(goes, 0, false) // it is granted
	step(goes, 7, false) // the store is done; the home does not know yet
	step(goes, 7, true)  // core 0 has thanked
	step(op(0, api.OpAdd, 2), 9, true)
	step(op(1, api.OpLoad, 0), 9, false)
	step(goes, 9, false) // the home fetches it
	step(goes, 9, false) // core 0 gave it: it is on the way
	step(goes, 9, false) // the home has it
	step(goes, 9, false) // core 1 has a copy
	step(goes, 9, true)
	step(op(1, api.OpStore, 5), 9, false)
	step(goes, 9, false) // the home asks core 0 to let it go
	step(goes, 9, false) // core 0 has
	step(goes, 9, false) // it is granted
	step(goes, 5, false) // the store is done
	step(goes, 5, true)
	step(op(1, api.OpEvict, 0), 5, false)
	tells(t, "leaving", w.chip.Cores[1].Lines[0].State, api.Leaving)
	step(goes, 5, false) // the home has taken it back
	tells(t, "at home", w.chip.Home[0].Value, 5)
	step(goes, 5, true)
	tells(t, "left", w.chip.Cores[1].Lines[0].State, api.Nothing)
}
