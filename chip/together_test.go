package chip_test

import (
	"testing"

	"sharedhearth/api"
	"sharedhearth/chip"
	"sharedhearth/flat"
)

// walk is a chip that goes through steps, and all that is done.
type walk struct {
	t    *testing.T
	chip api.Chip
	done []api.Done
	seed uint32
}

func newWalk(t *testing.T, cores, lines int, seed uint32) *walk {
	t.Helper()
	return &walk{t: t, chip: made(t, cores, lines), seed: seed}
}

// pick is a number below n, the same ones in turn for each seed.
func (w *walk) pick(n int) int {
	w.seed = w.seed*1664525 + 1013904223
	return int(w.seed>>16) % n
}

// do goes on only if the step is not refused.
func (w *walk) do(s api.Step) api.Errno {
	x, done, err := chip.Do(w.chip, s)
	if err == api.OK {
		w.chip, w.done = x, append(w.done, done...)
	}
	return err
}

// step is one of all that may come to be; frames that come are the most.
func (w *walk) step() {
	s := api.Step{Node: w.pick(len(w.chip.Cores) + 1), N: w.pick(len(w.chip.Frames) + 1), Bit: w.pick(97)}
	s.Op = api.Op{Kind: 1 + w.pick(4), Line: w.pick(len(w.chip.Home)), Value: w.pick(256)}
	others := []int{api.StepOp, api.StepOp, api.StepOp, api.StepDrop, api.StepTwice, api.StepSpoil, api.StepTimer, api.StepTimer}
	s.Kind = api.StepGo
	if n := w.pick(2 * len(others)); n < len(others) {
		s.Kind = others[n]
	}
	w.do(s)
}

// fits is what must hold of each chip that steps make.
func (w *walk) fits() bool {
	for _, b := range w.chip.Frames {
		if len(b) != api.FrameSize {
			return false
		}
	}
	for at := range w.chip.Home {
		has, only := 0, 0
		for _, c := range w.chip.Cores {
			switch c.Lines[at].State {
			case api.Alone:
				has, only = has+1, only+1
			case api.Copy:
				has++
			}
		}
		if only > 0 && has > 1 {
			return false
		}
	}
	return len(w.chip.Frames) <= api.MaxFrames
}

// settle has all that is asked done, if nothing is lost any more.
func (w *walk) settle() {
	w.t.Helper()
	for range 100 {
		for len(w.chip.Frames) > 0 {
			w.do(api.Step{Kind: api.StepGo})
		}
		if w.calm() {
			return
		}
		for node := range len(w.chip.Cores) + 1 {
			w.do(api.Step{Kind: api.StepTimer, Node: node})
		}
	}
	w.t.Fatalf("all that is asked is not done: %v", w.chip)
}

func (w *walk) calm() bool {
	for _, e := range w.chip.Home {
		if e.Phase != api.Idle {
			return false
		}
	}
	for _, c := range w.chip.Cores {
		if c.Wait.Kind != 0 {
			return false
		}
	}
	return true
}

// As if memory were one: whatever is lost, late, there twice, or spoilt.
func TestChipsAreOneMemory(t *testing.T) {
	total := 0
	for seed := range uint32(160) {
		w := newWalk(t, 1+int(seed%4), 1+int(seed/4%4), seed)
		for i := range 400 {
			if w.step(); !w.fits() {
				t.Fatalf("seed %d, step %d: %v", seed, i, w.chip)
			}
		}
		w.settle()
		total += len(w.done)
		memory, at := flat.Play(len(w.chip.Home), w.done)
		if at != -1 {
			t.Fatalf("seed %d: operation %d of %v", seed, at, w.done)
		}
		w.allComesHome(memory)
	}
	// Walks on which little is done would tell little.
	if total < 160*15 {
		t.Errorf("only %d operations are done", total)
	}
}

// allComesHome has each core give all back: then the home's values are memory's.
func (w *walk) allComesHome(memory []int) {
	w.t.Helper()
	for node := range w.chip.Cores {
		for at := range w.chip.Home {
			if err := w.do(api.Step{Kind: api.StepOp, Node: node, Op: api.Op{Kind: api.OpEvict, Line: at}}); err != api.OK {
				w.t.Fatalf("core %d can't give line %d back: error %d", node, at, err)
			}
			w.settle()
		}
	}
	for at, e := range w.chip.Home {
		if e.Value != memory[at] || e.Owner >= 0 {
			w.t.Errorf("line %d: %v, not %d", at, e, memory[at])
		}
	}
}

// Serials and turns have an end: the last ones still go through as frames, and then a core is told that it can't ask any more.
func TestLastSerialAndTurn(t *testing.T) {
	w := newWalk(t, 1, 1, 0)
	load := api.Step{Kind: api.StepOp, Op: api.Op{Kind: api.OpLoad}}
	evict := api.Step{Kind: api.StepOp, Op: api.Op{Kind: api.OpEvict}}
	for i := range api.MaxNumber {
		if err := w.do(load); err != api.OK {
			t.Fatalf("load %d: error %d", i, err)
		}
		w.settle()
		if i < api.MaxNumber-1 {
			w.do(evict)
		}
	}
	if len(w.done) != 2*api.MaxNumber-1 || w.chip.Home[0].Turn != api.MaxNumber || w.chip.Home[0].Sharers != 1 {
		t.Errorf("%d done, %v", len(w.done), w.chip)
	}
	for _, s := range []api.Step{load, evict} {
		if err := w.do(s); err != api.ErrBusy {
			t.Errorf("%v: error %d", s, err)
		}
	}
}
